/- Merged out of: XKQSpanI, XQuadInI. -/
import Derived.Test.YtoeebipahifpcaaGreatKQWith
import Derived.Test.YtoeebipahifpcaaGreatKTermS
section
/- Merged out of: XQSpanO, XQSpanI. -/
section
/- The span of sums, by the program. -/
namespace Go.Proofs.YtoeebipahifpcaaGreat
open Go.RowKit

/-- The rows of the first k sums. -/
def RS (ts : List T) (xss : List (List (Int × ByteArray))) (k : Nat) (y : Nat → Int) : Prop := ∃ (j : Nat) (h : j < xss.length), j < k ∧ qRowOf ts xss[j] = some y

/-- The base of the span of the first k sums. -/
def SpanIs (ts : List T) (xss : List (List (Int × ByteArray))) (k : Nat) (t : Nat → Nat → Int) : Prop :=
  Bs 18 t ∧ (∀ v, Sp 18 (BsR 18 t) v ↔ Sp 18 (RS ts xss k) v) ∧ ∀ j (h : j < xss.length), j < k → ∃ f, qRowOf ts xss[j] = some f

theorem SpanIs.zero (ts : List T) (xss : List (List (Int × ByteArray))) : SpanIs ts xss 0 fun _ _ => 0 :=
  ⟨Bs.none 18, fun v => ⟨Sp.mono fun y hy => by obtain ⟨i, _, rfl⟩ := hy; exact .zero fun _ _ => rfl, Sp.mono fun y hy => by obtain ⟨j, _, hj, _⟩ := hy; omega⟩, fun j _ hj => by omega⟩

theorem SpanIs.next {ts : List T} {xss : List (List (Int × ByteArray))} {k : Nat} {t t' : Nat → Nat → Int} {f : Nat → Int} (h : SpanIs ts xss k t) (hk : k < xss.length) (hf : qRowOf ts xss[k] = some f) (hb : Bs 18 t') (hs : ∀ v, Sp 18 (BsR 18 t') v ↔ Sp 18 (fun y => BsR 18 t y ∨ y = f) v) : SpanIs ts xss (k + 1) t' := by
  obtain ⟨h1, h2, h3⟩ := h
  refine ⟨hb, fun v => (hs v).trans ⟨Sp.mono fun y hy => ?_, Sp.mono fun y hy => ?_⟩, fun j hj hjk => ?_⟩
  · rcases hy with hy | rfl
    · refine ((h2 y).1 (Sp.of hy)).mono fun z hz => ?_
      obtain ⟨j, hj, hjk, hz⟩ := hz
      exact Sp.of ⟨j, hj, by omega, hz⟩
    · exact Sp.of ⟨k, hk, by omega, hf⟩
  · obtain ⟨j, hj, hjk, hy⟩ := hy
    by_cases e : j = k
    · subst e
      rw [hf] at hy
      cases hy
      exact Sp.of (.inr rfl)
    · exact ((h2 y).2 (Sp.of ⟨j, hj, by omega, hy⟩)).mono fun z hz => Sp.of (.inl hz)
  · by_cases e : j = k
    · subst e; exact ⟨f, hf⟩
    · exact h3 j hj (by omega)

/-- What 'spanOf' answers. -/
def SpanOf (ts : List T) (xss : List (List (Int × ByteArray))) (w : World) (e : Ending) (w' : World) : Prop :=
  Below w.heap.size w w' ∧ (((20 < xss.length ∨ ∃ (j : Nat) (h : j < xss.length), qRowOf ts xss[j] = none) ∧ e = .returned (.tuple #[.agg (sarr fun _ _ => 0), .bool false])) ∨
    ∃ t, xss.length ≤ 20 ∧ SpanIs ts xss xss.length t ∧ e = .returned (.tuple #[.agg (sarr t), .bool true]))

/-- The cells of 'spanOf'. -/
def SF (w : World) (BQ BO BT : Nat) (cq ct : Array Value) (w' : World) : Prop :=
  w'.heap[BQ]? = some (.cells cq 55 (0, 0)) ∧ w'.heap[BO]? = some (.cells (sarr fun _ _ => 0) 57 (0, 0)) ∧ w'.heap[BT]? = some (.cells ct 57 (0, 0)) ∧ Below w.heap.size w w' ∧ w.heap.size ≤ BQ ∧ BQ < BO ∧ BO < BT ∧ BT < w'.heap.size
theorem SF.keep {w w1 w2 : World} {BQ BO BT : Nat} {cq ct : Array Value} (h : SF w BQ BO BT cq ct w1) (hb : Below w1.heap.size w1 w2) : SF w BQ BO BT cq ct w2 := by
  obtain ⟨h1, h2, h3, h4, h5, h6, h7, h8⟩ := h
  exact ⟨(hb.block _ (by omega)).trans h1, (hb.block _ (by omega)).trans h2, (hb.block _ (by omega)).trans h3, below_step h4 hb, h5, h6, h7, Nat.lt_of_lt_of_le h8 hb.size⟩
theorem SF.setRow {w w1 : World} {BQ BO BT : Nat} {cq ct : Array Value} (h : SF w BQ BO BT cq ct w1) (vs : Array Value) : SF w BQ BO BT cq vs (w1.setRow BT vs) := by
  obtain ⟨h1, h2, h3, h4, h5, h6, h7, h8⟩ := h
  exact ⟨(setRow_other w1 BT BQ vs (by omega)).trans h1, (setRow_other w1 BT BO vs (by omega)).trans h2, setRow_heap w1 BT _ vs _ _ h3, below_setRow h4 (by omega) vs, h5, h6, h7, by simpa using h8⟩
theorem SF.alloc {w w1 : World} {BQ BO BT : Nat} {cq ct : Array Value} (h : SF w BQ BO BT cq ct w1) (o : Obj) : SF w BQ BO BT cq ct (w1.alloc o) := h.keep ((Below.refl _ _).alloc (Nat.le_refl _) _)

theorem zeroS_size : (Tryz.zeroCells57).size = 324 := by rw [zeroS, sarr_size]
theorem zeroS_one : (Tryz.zeroCells57).all (·.oneCell') = true := by rw [zeroS]; exact sarr_one _

set_option maxRecDepth 100000 in
set_option maxHeartbeats 8000000 in
theorem spanOf_any (ts : List T) (xss : List (List (Int × ByteArray))) (n m : Nat) (hnt : n = ts.length) (hmx : m = xss.length) (gt ct : Nat) (h : Nat → Int) (g cap : Nat) (w : World) (hn : n ≤ 18) (hm : m ≤ 1048576)
    (hts : ∀ t ∈ ts, t.wf) (hdesc : ts.Pairwise (fun a b => 0 < ordT a b)) (hz : ∀ j (h : j < xss.length), Small1 xss[j]) (htx : TxG w gt (txB ts)) (hl : TermsL w g xss) :
    Calls Tryz.prog 44 #[.agg (qcells (.slice (some ⟨gt, 0, none⟩) n ct) h), .slice (some ⟨g, 0, none⟩) m cap] w (SpanOf ts xss w) := by
  have HTS : Hid (∀ t ∈ ts, t.wf) := Lib.hid hts
  have HR : Hid (∀ (xs : List (Int × ByteArray)) (L gj cj : Nat) (W : World), L = xs.length → Small1 xs → Below w.heap.size w W → TermL W gj xs → Calls Tryz.prog 41 #[.agg (qcells (.slice (some ⟨gt, 0, none⟩) n ct) h), .slice (some ⟨gj, 0, none⟩) L cj] W (RowOf ts xs W)) :=
    Lib.hid (fun xs L gj cj W hL hs hb ht => rowOf_any ts xs n L hnt hL gt ct h gj cj W hn (by rw [hL]; exact hs.1) hts hdesc hs.2 (htx.below hb) ht)
  have HZ := Lib.hid hz
  have HL := Lib.hid hl
  have HM := Lib.hid hmx
  obtain ⟨cq, hcq⟩ : ∃ cq, cq = qcells (.slice (some ⟨gt, 0, none⟩) n ct) h := ⟨_, rfl⟩
  have hqs : cq.size = 19 := by rw [hcq, qcells_size]
  have HQS := Lib.hid hqs
  obtain ⟨fs, hfs⟩ := descQ2
  have HFS := Lib.hid hfs
  rw [← hcq] at HR ⊢
  obtain ⟨BQ, hBQ⟩ : ∃ BQ, BQ = w.heap.size := ⟨_, rfl⟩
  obtain ⟨BO, hBO⟩ : ∃ BO, BO = BQ + 1 := ⟨_, rfl⟩
  obtain ⟨w2, hw2⟩ : ∃ w2, w2 = (w.alloc (.cells cq 55 (0, 0))).alloc (.cells Tryz.zeroCells57 57 (0, 0)) := ⟨_, rfl⟩
  have HW2 := Lib.hid hw2
  have hs2 : w2.heap.size = w.heap.size + 2 := by rw [hw2]; simp
  have HS2 := Lib.hid hs2
  have HB2 : Hid (Below w.heap.size w w2) := Lib.hid (by rw [hw2]; exact ((Below.refl _ _).alloc (Nat.le_refl _) _).alloc (by simp) _)
  have H0 : Hid (w2.heap[BQ]? = some (.cells cq 55 (0, 0))) := Lib.hid (by rw [hw2, hBQ, Below.heap_alloc _ _ _ (by simp)]; exact heap_alloc_new _ _)
  have H1 : Hid (w2.heap[BO]? = some (.cells (sarr fun _ _ => 0) 57 (0, 0))) := Lib.hid (by
    rw [hw2, ← zeroS, hBO, hBQ, show w.heap.size + 1 = (w.alloc (.cells cq 55 (0, 0))).heap.size by simp]; exact heap_alloc_new _ _)
  have HBQ := Lib.hid hBQ
  have HBO := Lib.hid hBO
  clear hts hz hl hmx hcq hqs hfs hBQ hBO hw2 hs2 hdesc htx
  by_cases hmany : 20 < m
  · have hmi : (20 : Int) < (m : Int) := by omega
    have HMANY : Hid (20 < xss.length) := Lib.hid (by rw [← HM.out]; exact hmany)
    have hr := setRow_heap w2 BO _ (Tryz.zeroCells57) 57 (0, 0) H1.out
    rw [zeroS] at hr
    have HRR := Lib.hid hr
    have HBF := Lib.hid (below_setRow HB2.out (by rw [HBO.out, HBQ.out]; omega : w.heap.size ≤ BO) (sarr fun _ _ => 0))
    clear hr hmany
    go_enter Tryz.func44, Tryz.ntmps44
    go_upto_region 1 with fail
    rw [← HW2.out, ← HBQ.out, ← HBO.out]
    go_wp2_with (refine wpList_store_row rfl 57 (.tmp 4) (.tmp 14) rfl BO (Tryz.zeroCells57) rfl rfl 57 _ H1.out (by rw [zeroS_size]; exact infoS) (by rw [zeroS_size, sarr_size]) zeroS_one ?_)
    rw [zeroS]
    refine bodyPost_ret (v := .tuple #[.agg (sarr fun _ _ => 0), .bool false]) (by rw [results_cell_tmp rfl]; simp [asAddr, Result.andThen, run_loadVar_row _ _ _ _ _ _ _ HRR.out descS rfl (by rw [sarr_size]; exact infoS)]) rfl ?_
    exact ⟨HBF.out, .inl ⟨.inl HMANY.out, rfl⟩⟩
  · have hmi : ¬ (20 : Int) < (m : Int) := by omega
    have HM20 : Hid (xss.length ≤ 20) := Lib.hid (by rw [← HM.out]; omega)
    obtain ⟨BT, hBT⟩ : ∃ BT, BT = w2.heap.size := ⟨_, rfl⟩
    obtain ⟨w3, hw3⟩ : ∃ w3, w3 = w2.alloc (.cells (sarr fun _ _ => 0) 57 (0, 0)) := ⟨_, rfl⟩
    have HF3 : Hid (SF w BQ BO BT cq (sarr fun _ _ => 0) w3) := Lib.hid (by
      have e1 := HBQ.out
      have e2 := HBO.out
      have e3 := HS2.out
      rw [hw3]
      refine ⟨?_, ?_, by rw [hBT]; exact heap_alloc_new _ _, HB2.out.alloc (by omega) _, by omega, by omega, by omega, by simp; omega⟩
      · rw [Below.heap_alloc _ _ _ (by omega)]; exact H0.out
      · rw [Below.heap_alloc _ _ _ (by omega)]; exact H1.out)
    have HW3 := Lib.hid hw3
    have HBT := Lib.hid hBT
    clear hw3 hBT hmany
    go_enter Tryz.func44, Tryz.ntmps44
    go_upto_region 1 with fail
    rw [← HW2.out, ← HBQ.out, ← HBO.out]
    go_wp2_with (refine wpList_store_row rfl 57 (.tmp 6) (.tmp 15) rfl w2.heap.size (Tryz.zeroCells57) rfl rfl 57 _ (heap_alloc_new _ _) (by rw [zeroS_size]; exact infoS) (by rw [zeroS_size]) zeroS_one ?_; rw [World.setRow_alloc_new, zeroS, ← HW3.out, ← HBT.out])
    go_loopw [18] (fun iv wr => ∃ (k : Nat) (t : Nat → Nat → Int), k ≤ m ∧ iv = .int .i64 k ∧ SpanIs ts xss k t ∧ SF w BQ BO BT cq (sarr t) wr) (fun iv _ => m - (intOf iv).toNat)
    case atStart => exact ⟨0, _, by omega, rfl, SpanIs.zero ts xss, HF3.out⟩
    case round =>
      obtain ⟨k, t, hk, rfl, hsp, hF⟩ := hrel
      have HSP := Lib.hid hsp
      have HF := Lib.hid hF
      clear hsp hF
      by_cases hlt : k < m
      · have hkx : k < xss.length := by rw [← HM.out]; exact hlt
        obtain ⟨gj, cj, hc, htj⟩ := HL.out k hkx
        have c0 := keep1 HF.out.2.2.2.1 hc
        have hsj := HZ.out k hkx
        obtain ⟨xs, hxs⟩ : ∃ xs, xs = xss[k] := ⟨_, rfl⟩
        rw [← hxs] at c0 htj hsj
        obtain ⟨L, hL⟩ : ∃ L, L = xs.length := ⟨_, rfl⟩
        rw [← hL] at c0
        have HC := Lib.hid (HR.out xs L gj cj wr hL hsj HF.out.2.2.2.1 (htj.below HF.out.2.2.2.1))
        have HXS := Lib.hid hxs
        have HKX := Lib.hid hkx
        clear hc htj hsj hxs hL
        go_wp2_with (refine wpList_load_row rfl 55 (.tmp 2) rfl BQ rfl 55 cq (0, 0) (.struct fs) HF.out.1 HFS.out rfl (by rw [HQS.out]; exact infoQ) ?_)
        refine HC.out.mono ?_
        rintro e w4 ⟨hB4, ⟨hno, f, rfl⟩ | ⟨f, hfx, rfl⟩⟩
        · have HF5 := Lib.hid ((HF.out.keep hB4).alloc (.cells (arr f) 53 (0, 0)))
          have HNO : Hid (∃ (j : Nat) (h : j < xss.length), qRowOf ts xss[j] = none) := Lib.hid ⟨k, HKX.out, by rw [← HXS.out]; exact hno⟩
          have hr := setRow_heap _ BO _ (Tryz.zeroCells57) 57 (0, 0) HF5.out.2.1
          rw [zeroS] at hr
          have HRR := Lib.hid hr
          have HBF := Lib.hid (below_setRow HF5.out.2.2.2.1 (by have := HF5.out; exact Nat.le_of_lt (Nat.lt_of_le_of_lt this.2.2.2.2.1 this.2.2.2.2.2.1) : w.heap.size ≤ BO) (sarr fun _ _ => 0))
          clear hr hB4 hno
          go_wp2_with (first
            | (refine wpList_store_row rfl 53 (.tmp 9) (.tmp 26) rfl w4.heap.size (arr f) rfl rfl 53 _ (heap_alloc_new _ _) (by rw [arr_size]; exact infoA) (by rw [arr_size]; rfl) (arr_one _) ?_; rw [World.setRow_alloc_new])
            | (refine wpList_store_row rfl 57 (.tmp 4) (.tmp 30) rfl BO (Tryz.zeroCells57) rfl rfl 57 _ HF5.out.2.1 (by rw [zeroS_size]; exact infoS) (by rw [zeroS_size, sarr_size]) zeroS_one ?_))
          rw [zeroS]
          refine bodyPost_ret (v := .tuple #[.agg (sarr fun _ _ => 0), .bool false]) (by rw [results_cell_tmp rfl]; simp [asAddr, Result.andThen, run_loadVar_row _ _ _ _ _ _ _ HRR.out descS rfl (by rw [sarr_size]; exact infoS)]) rfl ?_
          exact ⟨HBF.out, .inl ⟨.inr HNO.out, rfl⟩⟩
        · obtain ⟨BR, hBR⟩ : ∃ BR, BR = w4.heap.size := ⟨_, rfl⟩
          obtain ⟨w5, hw5⟩ : ∃ w5, w5 = w4.alloc (.cells (arr f) 53 (0, 0)) := ⟨_, rfl⟩
          have HF5 : Hid (SF w BQ BO BT cq (sarr t) w5) := Lib.hid (by rw [hw5]; exact (HF.out.keep hB4).alloc _)
          have H5 : Hid (w5.heap[BR]? = some (.cells (arr f) 53 (0, 0))) := Lib.hid (by rw [hw5, hBR]; exact heap_alloc_new _ _)
          have HFX : Hid (qRowOf ts (xss[k]'HKX.out) = some f) := Lib.hid (by rw [← HXS.out]; exact hfx)
          have HWI := Lib.hid (fun W : World => spanWith_any t f W HSP.out.1 (fun j _ => qRowOf_bound HTS.out hfx j))
          have HW5 := Lib.hid hw5
          have HBR := Lib.hid hBR
          clear hB4 hfx hw5 hBR
          go_wp2_with (first
            | (refine wpList_store_row rfl 53 (.tmp 9) (.tmp 26) rfl w4.heap.size (arr f) rfl rfl 53 _ (heap_alloc_new _ _) (by rw [arr_size]; exact infoA) (by rw [arr_size]; rfl) (arr_one _) ?_; rw [World.setRow_alloc_new, ← HW5.out, ← HBR.out])
            | (refine wpList_load_row rfl 57 (.tmp 6) rfl BT rfl 57 (sarr t) (0, 0) _ HF5.out.2.2.1 descS rfl (by rw [sarr_size]; exact infoS) ?_)
            | (refine wpList_load_row rfl 53 (.tmp 9) rfl BR rfl 53 (arr f) (0, 0) _ H5.out descA rfl (by rw [arr_size]; exact infoA) ?_))
          refine (HWI.out w5).mono ?_
          rintro e w6 ⟨t', hb', hs', rfl, hB6⟩
          have HF6 := Lib.hid (HF5.out.keep hB6)
          have HF7 := Lib.hid (HF6.out.setRow (sarr t'))
          have HSP7 := Lib.hid (HSP.out.next HKX.out HFX.out hb' hs')
          clear hB6 hb' hs'
          go_wp2_with (refine wpList_store_row rfl 57 (.tmp 6) (.tmp 33) rfl BT (sarr t') rfl rfl 57 _ HF6.out.2.2.1 (by rw [sarr_size]; exact infoS) (by rw [sarr_size, sarr_size]) (sarr_one _) ?_)
          exact ⟨⟨k + 1, t', by omega, by go_num, HSP7.out, HF7.out⟩, by simp [intOf]; omega⟩
      · have hkm : k = m := by omega
        have HE : Hid (SpanIs ts xss xss.length t) := Lib.hid (by rw [← HM.out, ← hkm]; exact HSP.out)
        have HRR := Lib.hid (setRow_heap wr BO _ (sarr t) 57 (0, 0) HF.out.2.1)
        have HBF := Lib.hid (below_setRow HF.out.2.2.2.1 (by have := HF.out; exact Nat.le_of_lt (Nat.lt_of_le_of_lt this.2.2.2.2.1 this.2.2.2.2.2.1) : w.heap.size ≤ BO) (sarr t))
        clear hkm
        go_wp2_with (first
          | (refine wpList_load_row rfl 57 (.tmp 6) rfl BT rfl 57 (sarr t) (0, 0) _ HF.out.2.2.1 descS rfl (by rw [sarr_size]; exact infoS) ?_)
          | (refine wpList_store_row rfl 57 (.tmp 4) (.tmp 35) rfl BO (sarr t) rfl rfl 57 _ HF.out.2.1 (by rw [sarr_size]; exact infoS) (by rw [sarr_size, sarr_size]) (sarr_one _) ?_))
        refine bodyPost_ret (v := .tuple #[.agg (sarr t), .bool true]) (by rw [results_cell_tmp rfl]; simp [asAddr, Result.andThen, run_loadVar_row _ _ _ _ _ _ _ HRR.out descS rfl (by rw [sarr_size]; exact infoS)]) rfl ?_
        exact ⟨HBF.out, .inr ⟨t, HM20.out, HE.out, rfl⟩⟩

end Go.Proofs.YtoeebipahifpcaaGreat
end
section
/- The quadratic trees and the span of sums, by the program. -/
namespace Go.Proofs.YtoeebipahifpcaaGreat
open Go.RowKit

theorem results_2cells_tmp {fn : Func} {p q u : Tmp} {ty ty' : TypeId} (h : fn.results = #[.cell p ty, .cell q ty', .tmp u]) (tmps : Array Value) (P : Program) (w : World) :
    (results fn tmps).run P w =
      ((asAddr (tmps.getD p undef)).run P w).andThen fun a w₁ => ((loadVar ty a).run P w₁).andThen fun v w₂ => ((asAddr (tmps.getD q undef)).run P w₂).andThen fun b w₃ => ((loadVar ty' b).run P w₃).andThen fun v' w₄ => .ok (.tuple #[v, v', tmps.getD u undef]) w₄ := by
  simp only [results, h]
  simp [Sem.run_bind, Result.andThen]

theorem range_cells {w : World} {g : Nat} {cs : Array Value} {t : TypeId} {fr : Nat × Nat} (h : w.heap[g]? = some (.cells cs t fr)) : w.rangeAt g 0 cs.toList := fun j v hv => by
  rw [Nat.zero_add]
  exact cellAt h (by rw [← hv]; simp)

/-- No span is told. -/
def SpanBad (ss : List ByteArray) (xss : List (List (Int × ByteArray))) : Prop :=
  quadsOf ss = none ∨ ∃ ts, quadsOf ss = some ts ∧ (20 < xss.length ∨ ∃ (j : Nat) (h : j < xss.length), qRowOf ts xss[j] = none)

/-- What 'readSpan' answers. -/
def ReadSpan (ss : List ByteArray) (xss : List (List (Int × ByteArray))) (w : World) (e : Ending) (w' : World) : Prop :=
  Below w.heap.size w w' ∧ ((SpanBad ss xss ∧ ∃ cq, cq.size = 19 ∧ cq.all (·.oneCell') = true ∧ e = .returned (.tuple #[.agg cq, .agg (sarr fun _ _ => 0), .bool false])) ∨
    ∃ ts gt c t, quadsOf ss = some ts ∧ xss.length ≤ 20 ∧ SpanIs ts xss xss.length t ∧ e = .returned (.tuple #[.agg (qcells (.slice (some ⟨gt, 0, none⟩) ts.length c) (sgn ts)), .agg (sarr t), .bool true]) ∧ TxG w' gt (txB ts))

/-- The cells of 'readSpan': what is answered, and what is known. -/
def RSG (w : World) (B4 B5 B7 B9 : Nat) (cq ct c4 c5 : Array Value) (w' : World) : Prop :=
  w'.heap[B7]? = some (.cells cq 55 (0, 0)) ∧ w'.heap[B9]? = some (.cells ct 57 (0, 0)) ∧
  (w'.heap[B4]? = some (.cells c4 55 (0, 0)) ∧ c4.size = 19 ∧ w'.heap[B5]? = some (.cells c5 57 (0, 0)) ∧ c5.size = 324) ∧
  Below w.heap.size w w' ∧ w.heap.size ≤ B4 ∧ B4 < B5 ∧ B5 < B7 ∧ B7 < B9
theorem RSG.drew {w w1 : World} {B4 B5 B7 B9 : Nat} {cq ct c4 c5 : Array Value} (h : RSG w B4 B5 B7 B9 cq ct c4 c5 w1) : RSG w B4 B5 B7 B9 cq ct c4 c5 w1.drew := ⟨h.1, h.2.1, h.2.2.1, h.2.2.2.1.drew, h.2.2.2.2⟩
theorem RSG.set4 {w w1 : World} {B4 B5 B7 B9 : Nat} {cq ct c4 c5 : Array Value} (hq : cq.size = 19) (h : RSG w B4 B5 B7 B9 cq ct c4 c5 w1) : RSG w B4 B5 B7 B9 cq ct cq c5 (w1.setRow B4 cq) := by
  obtain ⟨h1, h2, ⟨h3, h5, h4, h6⟩, h7, h8, h9, h10, h11⟩ := h
  exact ⟨(setRow_other w1 B4 B7 cq (by omega)).trans h1, (setRow_other w1 B4 B9 cq (by omega)).trans h2, ⟨setRow_heap w1 B4 _ cq _ _ h3, hq, (setRow_other w1 B4 B5 cq (by omega)).trans h4, h6⟩, below_setRow h7 (by omega) cq, h8, h9, h10, h11⟩
theorem RSG.set5 {w w1 : World} {B4 B5 B7 B9 : Nat} {cq ct c4 c5 : Array Value} (ht : ct.size = 324) (h : RSG w B4 B5 B7 B9 cq ct c4 c5 w1) : RSG w B4 B5 B7 B9 cq ct c4 ct (w1.setRow B5 ct) := by
  obtain ⟨h1, h2, ⟨h3, h5, h4, h6⟩, h7, h8, h9, h10, h11⟩ := h
  exact ⟨(setRow_other w1 B5 B7 ct (by omega)).trans h1, (setRow_other w1 B5 B9 ct (by omega)).trans h2, ⟨(setRow_other w1 B5 B4 ct (by omega)).trans h3, h5, setRow_heap w1 B5 _ ct _ _ h4, ht⟩, below_setRow h7 (by omega) ct, h8, h9, h10, h11⟩

/-- .. whatever is there to be answered. -/
def RSF (w : World) (B4 B5 B7 B9 : Nat) (cq ct : Array Value) (w' : World) : Prop := ∃ c4 c5, RSG w B4 B5 B7 B9 cq ct c4 c5 w'

theorem TxG.block {w w' : World} {g : Nat} {ss : List ByteArray} (h : TxG w g ss) (hb : w'.heap[g]? = w.heap[g]?) : TxG w' g ss := fun j hj => (World.cell?_of_block (w := w) hb).trans (h j hj)

set_option maxRecDepth 100000 in
set_option maxHeartbeats 8000000 in
theorem readSpan_any (ss : List ByteArray) (xss : List (List (Int × ByteArray))) (n m : Nat) (hns : n = ss.length) (hmx : m = xss.length) (ga ca gx cx : Nat) (w : World) (hn : n ≤ 1048576) (hca : n ≤ ca) (hm : m ≤ 1048576)
    (hz : ∀ j (h : j < ss.length), (ss[j]).size ≤ 1048576) (hzx : ∀ j (h : j < xss.length), Small1 xss[j]) (hl : TxG w ga ss) (hlx : TermsL w gx xss) :
    Calls Tryz.prog 30 #[.slice (some ⟨ga, 0, none⟩) n ca, .slice (some ⟨gx, 0, none⟩) m cx] w (ReadSpan ss xss w) := by
  obtain ⟨w2, hw2⟩ : ∃ w2, w2 = (w.alloc (.cells #[.slice none 0 0, .int .i64 0, .int .i64 0, .int .i64 0, .int .i64 0, .int .i64 0, .int .i64 0, .int .i64 0, .int .i64 0, .int .i64 0, .int .i64 0, .int .i64 0, .int .i64 0, .int .i64 0, .int .i64 0, .int .i64 0, .int .i64 0, .int .i64 0, .int .i64 0] 55 (0, 0))).alloc (.cells Tryz.zeroCells57 57 (0, 0)) := ⟨_, rfl⟩
  have HW2 := Lib.hid hw2
  have hs2 : w2.heap.size = w.heap.size + 2 := by rw [hw2]; simp
  have HS2 := Lib.hid hs2
  have HB2 : Hid (Below w.heap.size w w2) := Lib.hid (by rw [hw2]; exact ((Below.refl _ _).alloc (Nat.le_refl _) _).alloc (by simp) _)
  obtain ⟨B4, hB4⟩ : ∃ B4, B4 = w.heap.size := ⟨_, rfl⟩
  obtain ⟨B5, hB5⟩ : ∃ B5, B5 = B4 + 1 := ⟨_, rfl⟩
  have H4 : Hid (w2.heap[B4]? = some (.cells quadZero 55 (0, 0))) := Lib.hid (by rw [hw2, hB4, Below.heap_alloc _ _ _ (by simp)]; exact heap_alloc_new _ _)
  have H5 : Hid (w2.heap[B5]? = some (.cells (sarr fun _ _ => 0) 57 (0, 0))) := Lib.hid (by
    rw [hw2, ← zeroS, hB5, hB4, show w.heap.size + 1 = (w.alloc (.cells #[.slice none 0 0, .int .i64 0, .int .i64 0, .int .i64 0, .int .i64 0, .int .i64 0, .int .i64 0, .int .i64 0, .int .i64 0, .int .i64 0, .int .i64 0, .int .i64 0, .int .i64 0, .int .i64 0, .int .i64 0, .int .i64 0, .int .i64 0, .int .i64 0, .int .i64 0] 55 (0, 0))).heap.size by simp]; exact heap_alloc_new _ _)
  have HQ := Lib.hid (readQuadratics_any ss n hns ga ca w2 hn hca hz (hl.below HB2.out))
  have HLX := Lib.hid hlx
  have HZX := Lib.hid hzx
  have HMX := Lib.hid hmx
  have HB4E := Lib.hid hB4
  have HB5E := Lib.hid hB5
  clear hns hz hl hlx hzx hmx hw2 hs2 hB4 hB5
  go_enter Tryz.func30, Tryz.ntmps30
  go_upto_region 1 with fail
  rw [← HW2.out, ← HB4E.out, ← HB5E.out]
  go_wp2_with fail
  refine HQ.out.mono ?_
  rintro e w1 ⟨hB1, ⟨hno, cs, rfl, hcs⟩ | ⟨ts, a1, c1, cs, hyes, rfl, hcs, hlies, hrow⟩⟩
  · have HN : Hid (SpanBad ss xss) := Lib.hid (.inl hno)
    have HCS := Lib.hid hcs
    obtain ⟨w5, hw5⟩ : ∃ w5, w5 = w1.alloc (.cells cs 55 (0, 0)) := ⟨_, rfl⟩
    have hb5 : Below w2.heap.size w2 w5 := by rw [hw5]; exact hB1.alloc hB1.size _
    have h4 := (hb5.block B4 (by have := HS2.out; have := HB4E.out; omega)).trans H4.out
    have h5 := (hb5.block B5 (by have := HS2.out; have := HB4E.out; have := HB5E.out; omega)).trans H5.out
    have HR4 := Lib.hid (setRow_heap w5 B4 _ quadZero _ _ h4)
    have HR45 := Lib.hid ((setRow_other w5 B4 B5 quadZero (by have := HB5E.out; omega)).trans h5)
    have HR5 := Lib.hid (setRow_heap (w5.setRow B4 quadZero) B5 _ (sarr fun _ _ => 0) _ _ HR45.out)
    have HR54 := Lib.hid ((setRow_other (w5.setRow B4 quadZero) B5 B4 (sarr fun _ _ => 0) (by have := HB5E.out; omega)).trans HR4.out)
    have HBF := Lib.hid (below_setRow (below_setRow (below_step HB2.out hb5) (by have := HB4E.out; omega : w.heap.size ≤ B4) quadZero) (by have := HB4E.out; have := HB5E.out; omega : w.heap.size ≤ B5) (sarr fun _ _ => 0))
    have H44 := Lib.hid h4
    have HW5 := Lib.hid hw5
    obtain ⟨fs, hfs⟩ := descQ2
    have HFS := Lib.hid hfs
    clear hno hB1 hcs hw5 hb5 h4 h5 hfs
    go_wp2_with (first
      | (refine wpList_store_row rfl 55 (.tmp 7) (.tmp 13) rfl w1.heap.size cs rfl rfl 55 _ (heap_alloc_new _ _) (by rw [HCS.out.1]; exact infoQ) (by rw [HCS.out.1]; rfl) (HCS.out.one rfl) ?_; rw [World.setRow_alloc_new, ← HW5.out])
      | (refine wpList_store_row rfl 55 (.tmp 4) (.tmp 17) rfl B4 quadZero rfl rfl 55 _ H44.out infoQ rfl quadZero_one ?_)
      | (refine wpList_store_row rfl 57 (.tmp 5) (.tmp 18) rfl B5 (Tryz.zeroCells57) rfl rfl 57 _ HR45.out (by rw [zeroS_size]; exact infoS) (by rw [zeroS_size, sarr_size]) zeroS_one ?_))
    rw [zeroS]
    refine bodyPost_ret (v := .tuple #[.agg quadZero, .agg (sarr fun _ _ => 0), .bool false]) (by rw [results_2cells_tmp rfl]; simp [asAddr, Result.andThen, run_loadVar_row _ _ _ _ _ _ _ HR54.out HFS.out rfl infoQ, run_loadVar_row _ _ _ _ _ _ _ HR5.out descS rfl (by rw [sarr_size]; exact infoS)]) rfl ?_
    exact ⟨HBF.out, .inl ⟨HN.out, quadZero, rfl, quadZero_one, rfl⟩⟩
  · obtain ⟨q1, q2, q3⟩ := quadsOf_ok hyes
    obtain ⟨r1, r2, r3⟩ := quads_pos hyes
    have hts0 : ts ≠ [] := fun e => by rw [e] at r1; simp at r1
    obtain ⟨gt, rfl, hgt⟩ : ∃ gt, a1 = some ⟨gt, 0, none⟩ ∧ w2.heap.size ≤ gt := by
      rcases hrow with h | ⟨g, _, h, _, _, h'⟩
      · exact absurd h hts0
      · exact ⟨g, h, h'⟩
    have ecs : cs = qcells (.slice (some ⟨gt, 0, none⟩) ts.length c1) (sgn ts) := qagg_cells hcs
    obtain ⟨L, hL⟩ : ∃ L, L = ts.length := ⟨_, rfl⟩
    obtain ⟨B7, hB7⟩ : ∃ B7, B7 = w1.heap.size := ⟨_, rfl⟩
    obtain ⟨w5, hw5⟩ : ∃ w5, w5 = w1.alloc (.cells cs 55 (0, 0)) := ⟨_, rfl⟩
    have hTX := TxG.of_texts (hlies.below ((Below.refl _ _).alloc (Nat.le_refl _) (.cells cs 55 (0, 0)) : Below w1.heap.size w1 _))
    rw [← hw5] at hTX
    have HTX := Lib.hid hTX
    have hb5 : Below w2.heap.size w2 w5 := by rw [hw5]; exact hB1.alloc hB1.size _
    have HB5 := Lib.hid hb5
    have HCQ := Lib.hid ecs
    have HQS : Hid (cs.size = 19) := Lib.hid (by rw [ecs, qcells_size])
    have HQO : Hid (cs.all (·.oneCell') = true) := Lib.hid (by rw [ecs]; exact qcells_one rfl _)
    have hSO := spanOf_any ts xss L m hL HMX.out gt c1 (sgn ts) gx cx w5 (by omega) hm (fun t ht => (q2 t ht).1) q3 HZX.out hTX (HLX.out.below (below_step HB2.out hb5))
    rw [hL, ← ecs] at hSO
    have HSO := Lib.hid hSO
    have HY := Lib.hid hyes
    have H7 : Hid (w5.heap[B7]? = some (.cells cs 55 (0, 0))) := Lib.hid (by rw [hw5, hB7]; exact heap_alloc_new _ _)
    have HS5 : Hid (w5.heap.size = B7 + 1) := Lib.hid (by rw [hw5, hB7]; simp)
    have HB7G : Hid (w2.heap.size ≤ B7) := Lib.hid (by rw [hB7]; exact hB1.size)
    have HW5 := Lib.hid hw5
    have HB7 := Lib.hid hB7
    have HGT := Lib.hid hgt
    have HGT5 : Hid (gt < w5.heap.size) := Lib.hid (by
      have h0 := hTX 0 (by simp [txB]; exact r1)
      exact World.block_lt_of_cell? _ _ h0)
    obtain ⟨fs, hfs⟩ := descQ2
    have HFS := Lib.hid hfs
    clear hB1 hyes hcs hlies hrow q1 q2 q3 r1 r2 r3 hts0 hgt ecs hL hB7 hw5 hTX hb5 hSO hfs
    go_wp2_with (first
      | (refine wpList_store_row rfl 55 (.tmp 7) (.tmp 13) rfl w1.heap.size cs rfl rfl 55 _ (heap_alloc_new _ _) (by rw [HQS.out]; exact infoQ) (by rw [HQS.out]; rfl) HQO.out ?_; rw [World.setRow_alloc_new, ← HW5.out, ← HB7.out])
      | (refine wpList_load_row rfl 55 (.tmp 7) rfl B7 rfl 55 cs (0, 0) (.struct fs) H7.out HFS.out rfl (by rw [HQS.out]; exact infoQ) ?_))
    refine HSO.out.mono ?_
    rintro e w6 ⟨hB6, hcase⟩
    obtain ⟨ct, bb, rfl, htsz, hto, hfin⟩ : ∃ (ct : Array Value) (bb : Bool), e = .returned (.tuple #[.agg ct, .bool bb]) ∧ ct.size = 324 ∧ ct.all (·.oneCell') = true ∧ ∀ W, Below w.heap.size w W → TxG W gt (txB ts) → ReadSpan ss xss w (.returned (.tuple #[.agg cs, .agg ct, .bool bb])) W := by
      rcases hcase with ⟨hbad, rfl⟩ | ⟨t, h20, hsp, rfl⟩
      · exact ⟨_, _, rfl, sarr_size _, sarr_one _, fun W hb _ => ⟨hb, .inl ⟨.inr ⟨ts, HY.out, hbad⟩, cs, HQS.out, HQO.out, rfl⟩⟩⟩
      · exact ⟨_, _, rfl, sarr_size _, sarr_one _, fun W hb ht => ⟨hb, .inr ⟨ts, gt, c1, t, HY.out, h20, hsp, by rw [HCQ.out], ht⟩⟩⟩
    obtain ⟨cq, hcq⟩ : ∃ cq, cq = cs := ⟨_, rfl⟩
    rw [← hcq] at H7 HQS HQO hfin
    obtain ⟨B9, hB9⟩ : ∃ B9, B9 = w6.heap.size := ⟨_, rfl⟩
    obtain ⟨w8, hw8⟩ : ∃ w8, w8 = w6.alloc (.cells ct 57 (0, 0)) := ⟨_, rfl⟩
    have hb8 : Below w5.heap.size w5 w8 := by rw [hw8]; exact hB6.alloc hB6.size _
    have HD8 : Hid (RSG w B4 B5 B7 B9 cq ct quadZero (sarr fun _ _ => 0) w8.drew) := Lib.hid (by
      have e1 := HB4E.out
      have e2 := HB5E.out
      have e3 := HS2.out
      have e4 := HS5.out
      have e5 := HB7G.out
      have e6 := hB6.size
      refine RSG.drew ⟨(hb8.block _ (by omega)).trans H7.out, by rw [hw8, hB9]; exact heap_alloc_new _ _, ⟨(hb8.block _ (by omega)).trans ((HB5.out.block _ (by omega)).trans H4.out), rfl, (hb8.block _ (by omega)).trans ((HB5.out.block _ (by omega)).trans H5.out), sarr_size _⟩, below_step (below_step HB2.out HB5.out) hb8, by omega, by omega, by omega, by omega⟩)
    have HT8 : Hid (TxG w8.drew gt (txB ts)) := Lib.hid (HTX.out.block (hb8.block _ HGT5.out))
    have HTSZ := Lib.hid htsz
    have HTO := Lib.hid hto
    have HFIN := Lib.hid hfin
    have HW8 := Lib.hid hw8
    have HB9 := Lib.hid hB9
    have HN4 : Hid (gt ≠ B4 ∧ gt ≠ B5) := Lib.hid (by have := HGT.out; have := HB4E.out; have := HB5E.out; have := HS2.out; omega)
    clear hB6 hcase htsz hto hfin hcq hB9 hw8 hb8
    go_upto_region 5 with (refine wpList_store_row rfl 57 (.tmp 9) (.tmp 23) rfl w6.heap.size ct rfl rfl 57 _ (heap_alloc_new _ _) (by rw [HTSZ.out]; exact infoS) (by rw [HTSZ.out, zeroS_size]) HTO.out ?_; rw [World.setRow_alloc_new])
    rw [← HW8.out, ← HB9.out]
    refine wp_region_held_drew (S := (fun w' => RSF w B4 B5 B7 B9 cq ct w')) (by kernel_rfl) ⟨_, _, HD8.out⟩ (fun hHeld => ?_)
    refine wpAnyH_take (i := 0) (oi := { dst := some 25, op := Op.load 55 (Operand.tmp 7), type := 55, pos := "l6_duals.go:213", after := #[], guard := none }) (v := .agg cq) rfl (by kernel_rfl) (by kernel_rfl) (by kernel_rfl) (fun _ _ _ h => h) (yieldsIf_load_mid (by rfl) 55 (.tmp 7) rfl B7 0 rfl cq.toList _ (fun w hS => range_cells hS.choose_spec.choose_spec.1) HFS.out rfl (by rw [Array.length_toList, HQS.out]; exact infoQ)) (by assumption) ?_
    (try simp only [Act.put, List.setIfInBounds_toArray, List.set_cons_zero, List.set_cons_succ])
    refine wpAnyH_take (i := 1) (oi := { dst := some 26, op := Op.load 57 (Operand.tmp 9), type := 57, pos := "l6_duals.go:213", after := #[{ on := 3, ground := Ground.gcOnly Departure.lateStores }], guard := none }) (v := .agg ct) rfl (by kernel_rfl) (by kernel_rfl) (by kernel_rfl) (fun _ _ _ h => h) (yieldsIf_load_mid (by rfl) 57 (.tmp 9) rfl B9 0 rfl ct.toList _ (fun w hS => range_cells hS.choose_spec.choose_spec.2.1) descS rfl (by rw [Array.length_toList, HTSZ.out]; exact infoS)) (by assumption) ?_
    (try simp only [Act.put, List.setIfInBounds_toArray, List.set_cons_zero, List.set_cons_succ])
    refine wpAnyH_take (i := 2) (oi := { dst := some 27, op := Op.move (Operand.tmp 8), type := 4, pos := "l6_duals.go:213", after := #[{ on := 4, ground := Ground.gcOnly Departure.lateStores }], guard := none }) (v := ?_) rfl (by kernel_rfl) (by kernel_rfl) (by kernel_rfl) (fun _ _ _ h => h) (Or.inl ⟨by rfl, ?_⟩) (by assumption) ?_
    rotate_left
    · (intro w hSw; (try dsimp only at hSw); go_simp <;> with_reducible rfl)
    (try simp only [Act.put, List.setIfInBounds_toArray, List.set_cons_zero, List.set_cons_succ])
    refine wpAnyH_ready (rs := [3]) (by kernel_rfl) (by simp) ?_
    refine AllReadyH.cons (o := { dst := none, op := Op.store 55 (Operand.tmp 4) (Operand.tmp 25), type := 0, pos := "l6_duals.go:213", after := #[{ on := 0, ground := Ground.data }, { on := 0, ground := Ground.phase }, { on := 1, ground := Ground.textOnly Departure.lateStores }, { on := 2, ground := Ground.textOnly Departure.lateStores }], guard := none }) rfl (fun K hK => ?_) AllReadyH.nil
    rw [if_pos (by rfl)]
    refine wp_store_row 55 (.tmp 4) (.tmp 25) rfl B4 cq rfl rfl 55 _ HD8.out.2.2.1.1 (by rw [HQS.out]; exact infoQ) (by rw [HQS.out, HD8.out.2.2.1.2.1]) HQO.out (hK.out _ _ ⟨_, _, RSG.set4 HQS.out HD8.out⟩ (fun hHeld => ?_))
    clear hK K
    have HD9 := Lib.hid (RSG.set4 HQS.out HD8.out)
    refine wpAnyH_ready (rs := [4]) (by kernel_rfl) (by simp) ?_
    refine AllReadyH.cons (o := { dst := none, op := Op.store 57 (Operand.tmp 5) (Operand.tmp 26), type := 0, pos := "l6_duals.go:213", after := #[{ on := 1, ground := Ground.data }, { on := 3, ground := Ground.chain }, { on := 0, ground := Ground.phase }, { on := 1, ground := Ground.phase }, { on := 2, ground := Ground.textOnly Departure.lateStores }, { on := 3, ground := Ground.phase }], guard := none }) rfl (fun K hK => ?_) AllReadyH.nil
    rw [if_pos (by rfl)]
    refine wp_store_row 57 (.tmp 5) (.tmp 26) rfl B5 ct rfl rfl 57 _ HD9.out.2.2.1.2.2.1 (by rw [HTSZ.out]; exact infoS) (by rw [HTSZ.out, HD9.out.2.2.1.2.2.2]) HTO.out (hK.out _ _ ⟨_, _, RSG.set5 HTSZ.out HD9.out⟩ (fun hHeld => ?_))
    clear hK K
    refine wpAnyH_take (i := 5) (oi := { dst := some 6, op := Op.assign (Operand.tmp 27), type := 4, pos := "l6_duals.go:213", after := #[{ on := 2, ground := Ground.data }, { on := 4, ground := Ground.chain }, { on := 0, ground := Ground.phase }, { on := 1, ground := Ground.phase }, { on := 2, ground := Ground.phase }, { on := 3, ground := Ground.phase }, { on := 4, ground := Ground.phase }], guard := none }) (v := ?_) rfl (by kernel_rfl) (by kernel_rfl) (by kernel_rfl) (fun _ _ _ h => h) (Or.inl ⟨by rfl, ?_⟩) (by assumption) ?_
    rotate_left
    · (intro w hSw; (try dsimp only at hSw); go_simp <;> with_reducible rfl)
    (try simp only [Act.put, List.setIfInBounds_toArray, List.set_cons_zero, List.set_cons_succ])
    refine wpAnyH_done (by kernel_rfl) ?_ _
    go_wp2_with fail
    have hl4 := (RSG.set5 HTSZ.out HD9.out).2.2.1.1
    have hl5 := (RSG.set5 HTSZ.out HD9.out).2.2.1.2.2.1
    have hbz := (RSG.set5 HTSZ.out HD9.out).2.2.2.1
    refine bodyPost_ret (v := .tuple #[.agg cq, .agg ct, .bool bb]) (by rw [results_2cells_tmp rfl]; simp [asAddr, Result.andThen, run_loadVar_row _ _ _ _ _ _ _ hl4 HFS.out rfl (by rw [HQS.out]; exact infoQ), run_loadVar_row _ _ _ _ _ _ _ hl5 descS rfl (by rw [HTSZ.out]; exact infoS)]) rfl ?_
    exact HFIN.out _ hbz (HT8.out.block ((setRow_other _ B5 gt ct HN4.out.2).trans (setRow_other _ B4 gt cq HN4.out.1)))

end Go.Proofs.YtoeebipahifpcaaGreat
end
end
section
/- QuadIn by the program. -/
namespace Go.Proofs.YtoeebipahifpcaaGreat
open Go.RowKit

/-- All sums of a list have rows. -/
def RowsAll (ts : List T) (xss : List (List (Int × ByteArray))) : Prop := ∀ j (h : j < xss.length), ∃ f, qRowOf ts xss[j] = some f

/-- A sum is in the span of sums. -/
def InSpan (ss : List ByteArray) (xss : List (List (Int × ByteArray))) (xs : List (Int × ByteArray)) : Prop :=
  ∃ ts f, quadsOf ss = some ts ∧ xss.length ≤ 20 ∧ RowsAll ts xss ∧ qRowOf ts xs = some f ∧ Sp 18 (RS ts xss xss.length) f
open Classical in
noncomputable def quadIn (ss : List ByteArray) (xss : List (List (Int × ByteArray))) (xs : List (Int × ByteArray)) : Bool := decide (InSpan ss xss xs)

open Classical in
theorem quadIn_eq {ss : List ByteArray} {xss : List (List (Int × ByteArray))} {xs : List (Int × ByteArray)} {b : Bool} (h : b = true ↔ InSpan ss xss xs) : quadIn ss xss xs = b := by
  unfold quadIn
  cases b with
  | true => exact decide_eq_true (h.1 rfl)
  | false => exact decide_eq_false fun hi => by cases h.2 hi

/-- Two lists of sums have the same span. -/
def SameSpan (ss : List ByteArray) (xss yss : List (List (Int × ByteArray))) : Prop :=
  ∃ ts, quadsOf ss = some ts ∧ xss.length ≤ 20 ∧ yss.length ≤ 20 ∧ RowsAll ts xss ∧ RowsAll ts yss ∧ ∀ v, Sp 18 (RS ts xss xss.length) v ↔ Sp 18 (RS ts yss yss.length) v
open Classical in
noncomputable def quadSame (ss : List ByteArray) (xss yss : List (List (Int × ByteArray))) : Bool := decide (SameSpan ss xss yss)

open Classical in
theorem quadSame_eq {ss : List ByteArray} {xss yss : List (List (Int × ByteArray))} {b : Bool} (h : b = true ↔ SameSpan ss xss yss) : quadSame ss xss yss = b := by
  unfold quadSame
  cases b with
  | true => exact decide_eq_true (h.1 rfl)
  | false => exact decide_eq_false fun hi => by cases h.2 hi

theorem SpanBad.no {ss : List ByteArray} {xss : List (List (Int × ByteArray))} (h : SpanBad ss xss) {ts : List T} (hq : quadsOf ss = some ts) (h20 : xss.length ≤ 20) (hr : RowsAll ts xss) : False := by
  rcases h with h | ⟨ts', h, h'⟩
  · rw [hq] at h; cases h
  · rw [hq] at h
    cases h
    rcases h' with h' | ⟨j, hj, h'⟩
    · omega
    · obtain ⟨f, hf⟩ := hr j hj
      rw [h'] at hf; cases hf

theorem wpList_load_rowG {P : Program} {ops : Array Oper} {rest : List Oper} {o : Oper} {a : Act} {w : World} {Q : Exit → Act → World → Prop} (hw : Region.wanted o (yielded ops a.tmps) = true) (ty : TypeId) (x : Operand) (ho : o.op = .load ty x)
    (g : Nat) (hx : a.eval x = .pointer (some ⟨g, 0, none⟩)) (t : TypeId) (cs : Array Value) (fr : Nat × Nat) (d : TypeDesc) (hg : w.heap[g]? = some (.cells cs t fr))
    (hu : P.underlying ty = some d) (hd : (match d with | .struct _ | .array _ _ => true | _ => false) = true) (hi : (P.info? ty).map (·.size) = some cs.size)
    (h : wpList P ops Q rest (a.put o.dst (.agg cs)) w) : wpList P ops Q (o :: rest) a w :=
  wpList_step fun _ hK => by rw [if_pos hw]; exact wp_load_row ty x ho g hx t cs fr d hg hu hd hi (hK _ _ h)

/-- The world with what 'readSpan' has answered in two cells. -/
theorem two_new {w w1 : World} (hB : Below w.heap.size w w1) (cq ct : Array Value) : ∃ w2 w3, w2 = (w1.alloc (.cells #[.slice none 0 0, .int .i64 0, .int .i64 0, .int .i64 0, .int .i64 0, .int .i64 0, .int .i64 0, .int .i64 0, .int .i64 0, .int .i64 0, .int .i64 0, .int .i64 0, .int .i64 0, .int .i64 0, .int .i64 0, .int .i64 0, .int .i64 0, .int .i64 0, .int .i64 0] 55 (0, 0))).alloc (.cells Tryz.zeroCells57 57 (0, 0)) ∧ w3 = (w2.setRow w1.heap.size cq).setRow (w1.heap.size + 1) ct ∧
    w2.heap[w1.heap.size]? = some (.cells quadZero 55 (0, 0)) ∧ (w2.setRow w1.heap.size cq).heap[w1.heap.size + 1]? = some (.cells (sarr fun _ _ => 0) 57 (0, 0)) ∧
    w3.heap[w1.heap.size]? = some (.cells cq 55 (0, 0)) ∧ w3.heap[w1.heap.size + 1]? = some (.cells ct 57 (0, 0)) ∧ Below w.heap.size w w3 ∧ Below w1.heap.size w1 w3 ∧ w3.heap.size = w1.heap.size + 2 := by
  obtain ⟨w2, hw2⟩ : ∃ w2, w2 = (w1.alloc (.cells #[.slice none 0 0, .int .i64 0, .int .i64 0, .int .i64 0, .int .i64 0, .int .i64 0, .int .i64 0, .int .i64 0, .int .i64 0, .int .i64 0, .int .i64 0, .int .i64 0, .int .i64 0, .int .i64 0, .int .i64 0, .int .i64 0, .int .i64 0, .int .i64 0, .int .i64 0] 55 (0, 0))).alloc (.cells Tryz.zeroCells57 57 (0, 0)) := ⟨_, rfl⟩
  have b2 : Below w1.heap.size w1 w2 := by rw [hw2]; exact ((Below.refl _ _).alloc (Nat.le_refl _) _).alloc (by simp) _
  have s2 : w2.heap.size = w1.heap.size + 2 := by rw [hw2]; simp
  have h7 : w2.heap[w1.heap.size]? = some (.cells quadZero 55 (0, 0)) := by rw [hw2, Below.heap_alloc _ _ _ (by simp)]; exact heap_alloc_new _ _
  have h8 : w2.heap[w1.heap.size + 1]? = some (.cells (sarr fun _ _ => 0) 57 (0, 0)) := by
    rw [hw2, ← zeroS, show w1.heap.size + 1 = (w1.alloc (.cells #[.slice none 0 0, .int .i64 0, .int .i64 0, .int .i64 0, .int .i64 0, .int .i64 0, .int .i64 0, .int .i64 0, .int .i64 0, .int .i64 0, .int .i64 0, .int .i64 0, .int .i64 0, .int .i64 0, .int .i64 0, .int .i64 0, .int .i64 0, .int .i64 0, .int .i64 0] 55 (0, 0))).heap.size by simp]; exact heap_alloc_new _ _
  have h87 := (setRow_other w2 w1.heap.size (w1.heap.size + 1) cq (by omega)).trans h8
  have b3 := below_setRow (below_setRow b2 (Nat.le_refl _) cq) (by omega : w1.heap.size ≤ w1.heap.size + 1) ct
  exact ⟨w2, _, hw2, rfl, h7, h87, (setRow_other _ (w1.heap.size + 1) w1.heap.size ct (by omega)).trans (setRow_heap w2 _ _ cq _ _ h7), setRow_heap _ _ _ ct _ _ h87, below_step hB b3, b3, by simpa using s2⟩

set_option maxRecDepth 100000 in
set_option maxHeartbeats 1000000 in
theorem iQuadIn_any (ss : List ByteArray) (xss : List (List (Int × ByteArray))) (xs : List (Int × ByteArray)) (n m m' : Nat) (hns : n = ss.length) (hmx : m = xss.length) (hmy : m' = xs.length) (ga ca gx cx gy cy : Nat) (w : World) (hn : n ≤ 1048576) (hca : n ≤ ca) (hm : m ≤ 1048576)
    (hz : ∀ j (h : j < ss.length), (ss[j]).size ≤ 1048576) (hzx : ∀ j (h : j < xss.length), Small1 xss[j]) (hzy : Small1 xs) (hl : TxG w ga ss) (hlx : TermsL w gx xss) (hly : TermL w gy xs) :
    Calls Tryz.prog 23 #[.slice (some ⟨ga, 0, none⟩) n ca, .slice (some ⟨gx, 0, none⟩) m cx, .slice (some ⟨gy, 0, none⟩) m' cy] w (Ans (.bool (quadIn ss xss xs)) w) := by
  have HRS := Lib.hid (readSpan_any ss xss n m hns hmx ga ca gx cx w hn hca hm hz hzx hl hlx)
  have HLY := Lib.hid hly
  have HZY := Lib.hid hzy
  have HMY := Lib.hid hmy
  clear hns hmx hz hzx hl hlx hly hzy hmy
  go_enter Tryz.func23, Tryz.ntmps23
  go_wp2_with fail
  refine HRS.out.mono ?_
  rintro e w1 ⟨hB1, ⟨hbad, cq, hqs, hqo, rfl⟩ | ⟨ts, gt, c1, t, hyes, h20, hsp, rfl, htx⟩⟩
  · obtain ⟨w2, w3, hw2, hw3, h7, h8, g7, g8, hb3, _, _⟩ := two_new hB1 cq (sarr fun _ _ => 0)
    have HQS := Lib.hid hqs
    have HQO := Lib.hid hqo
    have HW2 := Lib.hid hw2
    have HW3 := Lib.hid hw3
    have H7 := Lib.hid h7
    have H8 := Lib.hid h8
    have HB3 := Lib.hid hb3
    have HE : Hid (quadIn ss xss xs = false) := Lib.hid (quadIn_eq ⟨fun h => (by cases h), fun hi => (by obtain ⟨ts, f, h1, h2, h3, _⟩ := hi; exact (hbad.no h1 h2 h3).elim)⟩)
    clear hqs hqo hB1 hbad hw2 hw3 h7 h8 g7 g8 hb3
    go_wp2_with (first
      | (rw [← HW2.out]; refine wpList_store_row rfl 55 (.tmp 7) (.tmp 15) rfl w1.heap.size cq rfl rfl 55 _ H7.out (by rw [HQS.out]; exact infoQ) (by rw [HQS.out]; rfl) HQO.out ?_)
      | (refine wpList_store_row rfl 57 (.tmp 8) (.tmp 16) rfl (w1.heap.size + 1) (sarr fun _ _ => 0) rfl rfl 57 _ H8.out (by rw [sarr_size]; exact infoS) (by rw [sarr_size]) (sarr_one _) ?_; rw [← HW3.out]))
    go_ret
    exact ⟨by rw [HE.out]; rfl, HB3.out⟩
  · obtain ⟨q1, q2, q3⟩ := quadsOf_ok hyes
    obtain ⟨L, hL⟩ : ∃ L, L = ts.length := ⟨_, rfl⟩
    rw [← hL]
    obtain ⟨cq, hcq⟩ : ∃ cq, cq = qcells (.slice (some ⟨gt, 0, none⟩) L c1) (sgn ts) := ⟨_, rfl⟩
    rw [← hcq]
    have HQS : Hid (cq.size = 19) := Lib.hid (by rw [hcq, qcells_size])
    have HQO : Hid (cq.all (·.oneCell') = true) := Lib.hid (by rw [hcq]; exact qcells_one rfl _)
    obtain ⟨w2, w3, hw2, hw3, h7, h8, g7, g8, hb3, hb13, hs3⟩ := two_new hB1 cq (sarr t)
    have HTX := Lib.hid (htx.below hb13)
    have HW2 := Lib.hid hw2
    have HW3 := Lib.hid hw3
    have H7 := Lib.hid h7
    have H8 := Lib.hid h8
    have G7 := Lib.hid g7
    have G8 := Lib.hid g8
    have HB3 := Lib.hid hb3
    have HS3 := Lib.hid hs3
    have HY := Lib.hid hyes
    have HSP := Lib.hid hsp
    have HTS : Hid (∀ t ∈ ts, t.wf) := Lib.hid (fun t ht => (q2 t ht).1)
    obtain ⟨fs, hfs⟩ := descQ2
    have HFS := Lib.hid hfs
    have HRO : Hid (Calls Tryz.prog 41 #[.agg cq, .slice (some ⟨gy, 0, none⟩) m' cy] w3 (RowOf ts xs w3)) := Lib.hid (by
      rw [hcq]
      exact rowOf_any ts xs L m' hL HMY.out gt c1 (sgn ts) gy cy w3 (by omega) (by rw [HMY.out]; exact HZY.out.1) HTS.out q3 HZY.out.2 HTX.out (HLY.out.below hb3))
    have HIN : Hid (∀ f, qRowOf ts xs = some f → quadIn ss xss xs = rowZ (redV 18 t f)) := Lib.hid (fun f hf => quadIn_eq (rowZ_iff.trans (hsp.1.has_iff.trans ((hsp.2.1 f).trans ⟨fun h => ⟨ts, f, hyes, h20, fun j hj => hsp.2.2 j hj hj, hf, h⟩, fun h => (by
      obtain ⟨ts', f', h1, _, _, h4, h5⟩ := h
      rw [hyes] at h1; cases h1
      rw [hf] at h4; cases h4
      exact h5)⟩))))
    have HNO : Hid (qRowOf ts xs = none → quadIn ss xss xs = false) := Lib.hid (fun hf => quadIn_eq ⟨fun h => (by cases h), fun h => (by
      obtain ⟨ts', f', h1, _, _, h4, h5⟩ := h
      rw [hyes] at h1; cases h1
      rw [hf] at h4; cases h4)⟩)
    clear hB1 hyes h20 hsp htx q1 q2 q3 hL hcq hw2 hw3 h7 h8 g7 g8 hb3 hb13 hs3 hfs
    go_wp2_with (first
      | (rw [← HW2.out]; refine wpList_store_row rfl 55 (.tmp 7) (.tmp 15) rfl w1.heap.size cq rfl rfl 55 _ H7.out (by rw [HQS.out]; exact infoQ) (by rw [HQS.out]; rfl) HQO.out ?_)
      | (refine wpList_store_row rfl 57 (.tmp 8) (.tmp 16) rfl (w1.heap.size + 1) (sarr t) rfl rfl 57 _ H8.out (by rw [sarr_size]; exact infoS) (by rw [sarr_size, sarr_size]) (sarr_one _) ?_; rw [← HW3.out])
      | (refine wpList_load_row rfl 55 (.tmp 7) rfl w1.heap.size rfl 55 cq (0, 0) (.struct fs) G7.out HFS.out rfl (by rw [HQS.out]; exact infoQ) ?_))
    refine HRO.out.mono ?_
    rintro e w4 ⟨hB4, ⟨hno, f, rfl⟩ | ⟨f, hfx, rfl⟩⟩
    · have HE := Lib.hid (HNO.out hno)
      have HB4 := Lib.hid (below_step HB3.out hB4)
      clear hno hB4
      go_wp2_with (refine wpList_store_row rfl 53 (.tmp 10) (.tmp 24) rfl w4.heap.size (arr f) rfl rfl 53 _ (heap_alloc_new _ _) (by rw [arr_size]; exact infoA) (by rw [arr_size]; rfl) (arr_one _) ?_; rw [World.setRow_alloc_new])
      go_ret
      exact ⟨by rw [HE.out]; rfl, HB4.out.alloc HB4.out.size _⟩
    · have HE := Lib.hid (HIN.out f hfx)
      obtain ⟨B10, hB10⟩ : ∃ B10, B10 = w4.heap.size := ⟨_, rfl⟩
      obtain ⟨w5, hw5⟩ : ∃ w5, w5 = w4.alloc (.cells (arr f) 53 (0, 0)) := ⟨_, rfl⟩
      have hb5 : Below w3.heap.size w3 w5 := by rw [hw5]; exact hB4.alloc hB4.size _
      have HB5 := Lib.hid (below_step HB3.out hb5)
      have H10 : Hid (w5.heap[B10]? = some (.cells (arr f) 53 (0, 0))) := Lib.hid (by rw [hw5, hB10]; exact heap_alloc_new _ _)
      have H85 := Lib.hid ((hb5.block (w1.heap.size + 1) (by rw [HS3.out]; omega)).trans G8.out)
      have HHA := Lib.hid (spanHas_any t f w5 HSP.out.1 (fun j _ => qRowOf_bound HTS.out hfx j))
      obtain ⟨z, hz⟩ : ∃ z, z = quadIn ss xss xs := ⟨_, rfl⟩
      rw [← HE.out, ← hz] at HHA
      have HZZ := Lib.hid hz
      have HW5 := Lib.hid hw5
      have HB10 := Lib.hid hB10
      clear hfx hB4 hb5 hw5 hB10 hz
      go_wp2_with (first
        | (refine wpList_store_row rfl 53 (.tmp 10) (.tmp 24) rfl w4.heap.size (arr f) rfl rfl 53 _ (heap_alloc_new _ _) (by rw [arr_size]; exact infoA) (by rw [arr_size]; rfl) (arr_one _) ?_; rw [World.setRow_alloc_new, ← HW5.out, ← HB10.out])
        | (refine wpList_load_rowG (by rfl) 57 (.tmp 8) rfl (w1.heap.size + 1) rfl 57 (sarr t) (0, 0) _ H85.out descS rfl (by rw [sarr_size]; exact infoS) ?_)
        | (refine wpList_load_rowG (by rfl) 53 (.tmp 10) rfl B10 rfl 53 (arr f) (0, 0) _ H10.out descA rfl (by rw [arr_size]; exact infoA) ?_))
      refine HHA.out.mono ?_
      rintro e w6 ⟨rfl, hB6⟩
      have HB6 := Lib.hid (below_step HB5.out hB6)
      clear hB6
      go_wp2_with fail
      go_ret
      exact ⟨by rw [← HZZ.out]; rfl, HB6.out⟩

end Go.Proofs.YtoeebipahifpcaaGreat
end
