/- Rows written as sums, by the program; QuadBase by the program. -/
import Derived.Test.YtoeebipahifpcaaGreatKQuadSm
import Derived.Test.YtoeebipahifpcaaGreatKTermS
namespace Go.Proofs.YtoeebipahifpcaaGreat
open Go.RowKit

/-- A list of terms in new memory, its block known whole. -/
def TermsNew (xs : List (Int × ByteArray)) (w : World) (e : Ending) (w' : World) : Prop :=
  Below w.heap.size w w' ∧ ∃ g c, e = .returned (.slice (some ⟨g, 0, none⟩) xs.length c) ∧ w.heap.size ≤ g ∧ (∃ cur, w'.heap[g]? = some (.cells cur 73 (0, 0)) ∧ xs.length * 2 ≤ cur.size) ∧ TermL w' g xs

set_option maxRecDepth 100000 in
set_option maxHeartbeats 2000000 in
theorem qTerms_any (ts : List T) (f : Nat → Int) (n : Nat) (hnt : n = ts.length) (gt ct : Nat) (h : Nat → Int) (w : World) (hn : n ≤ 18) (htx : TxG w gt (txB ts)) :
    Calls Tryz.prog 51 #[.agg (qcells (.slice (some ⟨gt, 0, none⟩) n ct) h), .agg (arr f)] w (TermsNew (rowTx ts f ts.length) w) := by
  obtain ⟨i0, hi0, hzz, hzs, hzb⟩ := info_parts infoTm2
  obtain ⟨w2, hw2⟩ : ∃ w2, w2 = (w.alloc (.cells (qcells (.slice (some ⟨gt, 0, none⟩) n ct) h) 55 (0, 0))).alloc (.cells (arr f) 53 (0, 0)) := ⟨_, rfl⟩
  have HW2 := Lib.hid hw2
  have HB2 : Hid (Below w.heap.size w w2) := Lib.hid (by rw [hw2]; exact ((Below.refl _ _).alloc (Nat.le_refl _) _).alloc (by simp) _)
  have hs2 : w2.heap.size = w.heap.size + 2 := by rw [hw2]; simp
  have HS2 := Lib.hid hs2
  have H0 : Hid (w2.heap[w.heap.size]? = some (.cells (qcells (.slice (some ⟨gt, 0, none⟩) n ct) h) 55 (0, 0))) := Lib.hid (by
    rw [hw2, Below.heap_alloc _ _ _ (by simp)]; exact heap_alloc_new _ _)
  have H1 : Hid (w2.heap[w.heap.size + 1]? = some (.cells (arr f) 53 (0, 0))) := Lib.hid (by
    rw [hw2, show w.heap.size + 1 = (w.alloc (.cells (qcells (.slice (some ⟨gt, 0, none⟩) n ct) h) 55 (0, 0))).heap.size by simp]; exact heap_alloc_new _ _)
  have HTX := Lib.hid htx
  have HNT := Lib.hid hnt
  obtain ⟨B0, hB0⟩ : ∃ B0, B0 = w.heap.size := ⟨_, rfl⟩
  obtain ⟨B1, hB1⟩ : ∃ B1, B1 = w.heap.size + 1 := ⟨_, rfl⟩
  rw [← hB0] at H0
  rw [← hB1] at H1
  have HB0 := Lib.hid hB0
  have HB1 := Lib.hid hB1
  clear hw2 htx hnt hs2 hB0 hB1
  go_enter Tryz.func51, Tryz.ntmps51
  go_upto_region 2 with fail
  rw [← HW2.out]
  obtain ⟨w3, hw3⟩ : ∃ w3, w3 = w2.alloc (.cells #[] 73 (0, 0)) := ⟨_, rfl⟩
  have hs3 : w3.heap.size = w2.heap.size + 1 := by rw [hw3]; simp
  have hb3 : Below w2.heap.size w2 w3 := by rw [hw3]; exact (Below.refl _ _).alloc (Nat.le_refl _) _
  have HB3 := Lib.hid (below_step HB2.out hb3)
  have H03 : Hid (w3.heap[B0]? = some (.cells (qcells (.slice (some ⟨gt, 0, none⟩) n ct) h) 55 (0, 0))) := Lib.hid ((hb3.block _ (by rw [HB0.out, HS2.out]; omega)).trans H0.out)
  have H13 : Hid (w3.heap[B1]? = some (.cells (arr f) 53 (0, 0))) := Lib.hid ((hb3.block _ (by rw [HB1.out, HS2.out]; omega)).trans H1.out)
  have OW3 : Hid (World.ownsRow w3 w2.heap.size 73 2 (.slice (some ⟨w2.heap.size, 0, none⟩) 0 0) 0 []) := Lib.hid (by rw [hw3]; exact World.ownsRow_made w2 #[] 0 (Nat.le_refl _) (by simp [maxLen]) rfl)
  have hc0 : w3.cell? ⟨B0, 0, none⟩ = some (.slice (some ⟨gt, 0, none⟩) n ct) := cellAt H03.out (qcells_zero _ _)
  obtain ⟨B2, hB2⟩ : ∃ B2, B2 = B1 + 1 := ⟨_, rfl⟩
  have hz2 : w2.heap.size = B2 := by rw [hB2, HS2.out, HB1.out]
  rw [← hw3, ← HB1.out, ← HB0.out, ← hB2]
  rw [hz2] at OW3
  have hs3' : w3.heap.size = B2 + 1 := by omega
  have hBB : B1 < B2 := by omega
  have hwB : w.heap.size ≤ B2 := by rw [← hz2, HS2.out]; omega
  clear hw3 hs3 hb3 hz2
  clear hB2
  go_wp2_with fail
  clear hc0
  go_loopw [5, 12] (fun ov iv wr => ∃ (i q : Nat) (ua : Option Addr) (uc : Nat) (us : List Value), i ≤ n ∧ ua ≠ none ∧ iv = .int .i64 i ∧ ov = .slice ua q uc ∧ q = (rowTx ts f i).length ∧ Row trm 73 B2 (rowTx ts f i) (.slice ua q uc) us wr ∧ Below B2 w3 wr) (fun _ iv _ => n - (intOf iv).toNat)
  case atStart => exact ⟨0, 0, some ⟨B2, 0, none⟩, 0, [], Nat.zero_le _, by simp, rfl, rfl, rfl, ⟨OW3.out, fun _ h => by simp [rowTx] at h⟩, Below.refl _ _⟩
  case round =>
    obtain ⟨i, q, ua, uc, us, hi, hua, rfl, rfl, hq, hrow, hB⟩ := hrel
    obtain ⟨wo, rfl⟩ : ∃ wo : World, wo = wr := ⟨_, rfl⟩
    have HROW := Lib.hid hrow
    have HB := Lib.hid hB
    have HUA := Lib.hid hua
    have HQL := Lib.hid hq
    have hq18 : q ≤ 18 := by have := rowTx_le ts f i; omega
    have hszo : B2 + 1 ≤ wo.heap.size := by have := hB.size; omega
    have HW := Lib.hid (HB3.out.trans (hB.mono hwB))
    clear hrow hua hB hq
    by_cases hlt : i < n
    · have hltt : i < ts.length := by rw [← HNT.out]; exact hlt
      have d1 := (HTX.out.below HW.out) i (by rw [txB_length]; exact hltt)
      rw [txB_get ts hltt] at d1
      have d2 : wo.cell? ⟨B1, i, none⟩ = some (.int .i64 (f i)) := cellAt ((HB.out.block _ (by omega)).trans H13.out) (arr_get f (by omega))
      obtain ⟨z, hz⟩ : ∃ z, z = f i := ⟨_, rfl⟩
      obtain ⟨s, hs⟩ : ∃ s : ByteArray, s = ⟨(ts[i]).text.toArray⟩ := ⟨_, rfl⟩
      rw [← hz] at d2
      rw [← hs] at d1
      have HZ := Lib.hid hz
      have HS := Lib.hid hs
      have i0' : (0 : Int) ≤ (i : Int) := by omega
      have i18 : (i : Int) < 18 := by omega
      clear hz hs
      by_cases hz0 : z = 0
      · have HNX : Hid (rowTx ts f (i + 1) = rowTx ts f i) := Lib.hid (by rw [rowTx, dif_pos hltt, ← HZ.out, if_pos hz0, List.append_nil])
        rw [hz0] at d2
        go_wp2_with fail
        exact ⟨⟨i + 1, q, ua, uc, us, by omega, HUA.out, by go_num, rfl, by rw [HNX.out]; exact HQL.out, by rw [HNX.out]; exact HROW.out, HB.out⟩, by simp [intOf]; omega⟩
      · have HNX : Hid (rowTx ts f (i + 1) = rowTx ts f i ++ [(z, s)]) := Lib.hid (by rw [rowTx, dif_pos hltt, ← HZ.out, if_neg hz0, HS.out])
        have OWN := HROW.out.own
        rw [← HQL.out] at OWN
        have HOWN := Lib.hid OWN
        have HOA := Lib.hid (World.ownsRow.alloc OWN (.cells #[.int .i64 z, .string s] 73 (0, 0)))
        clear OWN
        go_wp2_with (at_builtin; refine wpList_append_own_at _ rfl _ _ 38 rfl B2 73 i0 (.agg #[.int .i64 0, .string ⟨#[]⟩]) 2 24 Tryz.underlying38 hi0 hzz hzs hzb rfl (by decide) (.slice ua q uc) q us rfl HOA.out ⟨wo.heap.size, 0, none⟩ 1 1 [.int .i64 z, .string s] rfl rfl (cells_two rfl _ _) (by simp [Value.oneCell']) (by unfold maxLen; omega) (by omega) (by simp; omega) ?_; intro v3 w6 hown3 hg3 hnil3 hat3)
        obtain ⟨g3, c3, rfl, _, _, _⟩ := owns_some hown3 (fun e => by have := hnil3.1 e; simp [HUA.out] at this)
        have HNR : Hid (Row trm 73 B2 (rowTx ts f (i + 1)) (.slice (some ⟨g3, 0, none⟩) (q + 1) c3) (us ++ [.int .i64 z, .string s]) w6) := Lib.hid (by
          have h := trm_snoc (a := (z, s)) (g := g3) (cap := c3) (w2 := w6) HROW.out (by rw [← HQL.out]; exact hown3)
          rw [← HQL.out] at h
          rw [HNX.out]
          exact h)
        have BB := Lib.hid ((HB.out.alloc (by omega) (.cells #[.int .i64 z, .string s] 73 (0, 0))).grown hg3 (by simp; omega) (fun b e => (HOWN.out.lt b e).1))
        clear hown3 hg3 hnil3 hat3
        exact ⟨⟨i + 1, q + 1, some ⟨g3, 0, none⟩, c3, _, by omega, by simp, by go_num, rfl, by rw [HNX.out, List.length_append, ← HQL.out]; rfl, HNR.out, BB.out⟩, by simp [intOf]; omega⟩
    · have hin : i = n := by omega
      obtain ⟨gv, rfl, _⟩ := owns_addr HROW.out.own HUA.out
      have HRT := Lib.hid (row_terms HROW.out)
      have HE : Hid (i = ts.length) := Lib.hid (by rw [hin, HNT.out])
      clear hin
      go_wp2_with fail
      go_ret
      obtain ⟨h1, h2, h3⟩ := HRT.out
      rw [HE.out] at h2 h3
      refine ⟨HW.out, gv, uc, ?_, by omega, h2, h3⟩
      rw [HQL.out, HE.out]; rfl

/-- The sums of the rows below c that are not 0. -/
def pBase (ts : List T) (t : Nat → Nat → Int) : Nat → List (List (Int × ByteArray))
  | 0 => []
  | c + 1 => pBase ts t c ++ (if rowZ (t c) = true then [] else [rowTx ts (t c) ts.length])

theorem pBase_le (ts : List T) (t : Nat → Nat → Int) : ∀ c, (pBase ts t c).length ≤ c
  | 0 => Nat.le_refl _
  | c + 1 => by
    have := pBase_le ts t c
    rw [pBase, List.length_append]
    split <;> simp <;> omega

/-- Lists of terms in new memory. -/
def SumsNew (xss : List (List (Int × ByteArray))) (w : World) (e : Ending) (w' : World) : Prop :=
  Below w.heap.size w w' ∧ ∃ g c gb vs, e = .returned (.slice (some ⟨g, 0, none⟩) xss.length c) ∧ SumsW w.heap.size w' (some ⟨g, 0, none⟩) c xss gb vs

set_option maxRecDepth 100000 in
set_option maxHeartbeats 4000000 in
theorem qBaseI_any (ts : List T) (t : Nat → Nat → Int) (n : Nat) (hnt : n = ts.length) (gt ct : Nat) (h : Nat → Int) (w : World) (hn : n ≤ 18) (htx : TxG w gt (txB ts)) :
    Calls Tryz.prog 31 #[.agg (qcells (.slice (some ⟨gt, 0, none⟩) n ct) h), .agg (sarr t)] w (SumsNew (pBase ts t 18) w) := by
  obtain ⟨fs, hfs⟩ := descQ2
  have HFS := Lib.hid hfs
  have HQS : Hid ((qcells (.slice (some ⟨gt, 0, none⟩) n ct) h).size = 19) := Lib.hid (qcells_size _ _)
  obtain ⟨i0, hi0, hzz, hzs, hzb⟩ := info_parts infoTmL
  obtain ⟨cq, hcq⟩ : ∃ cq, cq = qcells (.slice (some ⟨gt, 0, none⟩) n ct) h := ⟨_, rfl⟩
  have HTM : Hid (∀ (f : Nat → Int) (W : World), Below w.heap.size w W → Calls Tryz.prog 51 #[.agg cq, .agg (arr f)] W (TermsNew (rowTx ts f ts.length) W)) := Lib.hid (fun f W hb => by rw [hcq]; exact qTerms_any ts f n hnt gt ct h W hn (htx.below hb))
  rw [← hcq] at HQS
  rw [← hcq]
  clear hcq
  obtain ⟨w2, hw2⟩ : ∃ w2, w2 = (w.alloc (.cells cq 55 (0, 0))).alloc (.cells (sarr t) 57 (0, 0)) := ⟨_, rfl⟩
  have HW2 := Lib.hid hw2
  have HB2 : Hid (Below w.heap.size w w2) := Lib.hid (by rw [hw2]; exact ((Below.refl _ _).alloc (Nat.le_refl _) _).alloc (by simp) _)
  have hs2 : w2.heap.size = w.heap.size + 2 := by rw [hw2]; simp
  have HS2 := Lib.hid hs2
  have H0 : Hid (w2.heap[w.heap.size]? = some (.cells cq 55 (0, 0))) := Lib.hid (by
    rw [hw2, Below.heap_alloc _ _ _ (by simp)]; exact heap_alloc_new _ _)
  have H1 : Hid (w2.heap[w.heap.size + 1]? = some (.cells (sarr t) 57 (0, 0))) := Lib.hid (by
    rw [hw2, show w.heap.size + 1 = (w.alloc (.cells cq 55 (0, 0))).heap.size by simp]; exact heap_alloc_new _ _)
  obtain ⟨B0, hB0⟩ : ∃ B0, B0 = w.heap.size := ⟨_, rfl⟩
  obtain ⟨B1, hB1⟩ : ∃ B1, B1 = w.heap.size + 1 := ⟨_, rfl⟩
  rw [← hB0] at H0
  rw [← hB1] at H1
  have HB0 := Lib.hid hB0
  have HB1 := Lib.hid hB1
  clear hw2 htx hnt hs2 hB0 hB1 hfs
  go_enter Tryz.func31, Tryz.ntmps31
  go_upto_region 1 with fail
  rw [← HW2.out, ← HB1.out, ← HB0.out]
  go_upto_region 2 with fail
  obtain ⟨w3, hw3⟩ : ∃ w3, w3 = w2.alloc (.cells #[] 38 (0, 0)) := ⟨_, rfl⟩
  have hs3 : w3.heap.size = w2.heap.size + 1 := by rw [hw3]; simp
  have hb3 : Below w2.heap.size w2 w3 := by rw [hw3]; exact (Below.refl _ _).alloc (Nat.le_refl _) _
  have HB3 := Lib.hid (below_step HB2.out hb3)
  have H03 : Hid (w3.heap[B0]? = some (.cells cq 55 (0, 0))) := Lib.hid ((hb3.block _ (by rw [HB0.out, HS2.out]; omega)).trans H0.out)
  have H13 : Hid (w3.heap[B1]? = some (.cells (sarr t) 57 (0, 0))) := Lib.hid ((hb3.block _ (by rw [HB1.out, HS2.out]; omega)).trans H1.out)
  have OW3 : Hid (World.ownsRow w3 w2.heap.size 38 1 (.slice (some ⟨w2.heap.size, 0, none⟩) 0 0) 0 []) := Lib.hid (by rw [hw3]; exact World.ownsRow_made w2 #[] 0 (Nat.le_refl _) (by simp [maxLen]) rfl)
  obtain ⟨B2, hB2⟩ : ∃ B2, B2 = w2.heap.size := ⟨_, rfl⟩
  rw [← hw3, ← hB2]
  rw [← hB2] at OW3
  have hs3' : w3.heap.size = B2 + 1 := by omega
  have hBB : B1 < B2 := by rw [hB2, HS2.out, HB1.out]; omega
  have hB01 : B0 < B2 := by rw [hB2, HS2.out, HB0.out]; omega
  have hwB : w.heap.size ≤ B2 := by rw [hB2, HS2.out]; omega
  clear hw3 hs3 hb3 hB2
  go_wp2_with (refine wpList_load_row rfl 57 (.tmp 3) rfl B1 rfl 57 (sarr t) (0, 0) _ H13.out descS rfl (by rw [sarr_size]; exact infoS) ?_)
  go_loopw [5, 10] (fun ov iv wr => ∃ (k q : Nat) (va : Option Addr) (vc : Nat) (gb : Nat → Nat) (vs : List Value), k ≤ 18 ∧ va ≠ none ∧ iv = .int .i64 k ∧ ov = .slice va q vc ∧ q = (pBase ts t k).length ∧ SumsW B2 wr va vc (pBase ts t k) gb vs ∧ Below B2 w3 wr) (fun _ iv _ => 18 - (intOf iv).toNat)
  case atStart => exact ⟨0, 0, some ⟨B2, 0, none⟩, 0, fun _ => 0, [], Nat.zero_le _, by simp, rfl, rfl, rfl, ⟨OW3.out, fun _ h => by simp [pBase] at h⟩, Below.refl _ _⟩
  case round =>
    obtain ⟨k, q, va, vc, gb, vs, hk, hva, rfl, rfl, hq, hrow, hB⟩ := hrel
    obtain ⟨wo, rfl⟩ : ∃ wo : World, wo = wr := ⟨_, rfl⟩
    have HROW := Lib.hid hrow
    have HB := Lib.hid hB
    have HVA := Lib.hid hva
    have HQL := Lib.hid hq
    have hq18 : q ≤ 18 := by have := pBase_le ts t k; omega
    have hszo : B2 + 1 ≤ wo.heap.size := by have := hB.size; omega
    have HW := Lib.hid (HB3.out.trans (hB.mono hwB))
    clear hrow hva hB hq
    by_cases hlt : k < 18
    · have hix := fun W => index_span t hlt W
      obtain ⟨Bf, hBf⟩ : ∃ Bf, Bf = wo.heap.size := ⟨_, rfl⟩
      obtain ⟨W0, hW0⟩ : ∃ W0, W0 = wo.alloc (.cells (arr (t k)) 53 (0, 0)) := ⟨_, rfl⟩
      have HW0 := Lib.hid hW0
      have HBFE := Lib.hid hBf
      have hb0 : Below wo.heap.size wo W0 := by rw [hW0]; exact (Below.refl _ _).alloc (Nat.le_refl _) _
      have HB0W := Lib.hid hb0
      have HF : Hid (W0.heap[Bf]? = some (.cells (arr (t k)) 53 (0, 0))) := Lib.hid (by rw [hW0, hBf]; exact heap_alloc_new _ _)
      have hsW : W0.heap.size = wo.heap.size + 1 := by rw [hW0]; simp
      have HIZ := Lib.hid (fun W : World => rowIsZero_any (t k) W)
      have k0 : (0 : Int) ≤ (k : Int) := by omega
      have k18 : (k : Int) < 18 := by omega
      have HKZ : Hid (pBase ts t (k + 1) = pBase ts t k ++ (if rowZ (t k) = true then [] else [rowTx ts (t k) ts.length])) := Lib.hid rfl
      obtain ⟨z, hz⟩ : ∃ z, z = rowZ (t k) := ⟨_, rfl⟩
      rw [← hz] at HIZ HKZ
      clear hz hW0 hBf hb0
      go_upto_region 5 with (refine wpList_store_row rfl 53 (.tmp 7) (.tmp 12) rfl wo.heap.size (arr (t k)) rfl rfl 53 _ (heap_alloc_new _ _) (by rw [arr_size]; exact infoA) (by rw [arr_size]; rfl) (arr_one _) ?_)
      rw [World.setRow_alloc_new, ← HW0.out, ← HBFE.out]
      go_wp2_with (refine wpList_load_row rfl 53 (.tmp 7) rfl Bf rfl 53 (arr (t k)) (0, 0) _ HF.out descA rfl (by rw [arr_size]; exact infoA) ?_)
      refine (HIZ.out W0).mono ?_
      rintro e w5 ⟨rfl, hB5⟩
      have HB5 := Lib.hid (below_step HB0W.out hB5)
      have HF5 := Lib.hid ((hB5.block Bf (by have := HBFE.out; omega)).trans HF.out)
      have hs5 := hB5.size
      clear hB5
      cases z with
      | true =>
        have HKT : Hid (pBase ts t (k + 1) = pBase ts t k) := Lib.hid (by rw [HKZ.out]; simp)
        clear HKZ
        go_wp2_with fail
        exact ⟨⟨k + 1, q, va, vc, gb, vs, by omega, HVA.out, by go_num, rfl, by rw [HKT.out]; exact HQL.out, by rw [HKT.out]; exact HROW.out.step HB5.out, HB.out.trans (HB5.out.mono (by omega))⟩, by simp [intOf]; omega⟩
      | false =>
        rw [if_neg (by decide)] at HKZ
        have H05 := Lib.hid ((HB5.out.block B0 (by omega)).trans ((HB.out.block B0 hB01).trans H03.out))
        have HTC := Lib.hid (HTM.out (t k) w5 (below_step HW.out HB5.out))
        go_wp2_with (first
          | (refine wpList_load_row rfl 55 (.tmp 2) rfl B0 rfl 55 cq (0, 0) (.struct fs) H05.out HFS.out rfl (by rw [HQS.out]; exact infoQ) ?_)
          | (refine wpList_load_row rfl 53 (.tmp 7) rfl Bf rfl 53 (arr (t k)) (0, 0) _ HF5.out descA rfl (by rw [arr_size]; exact infoA) ?_))
        refine HTC.out.mono ?_
        rintro e w6 ⟨hB6, g1, c1, rfl, hg1, hcur, htl⟩
        have HB6 := Lib.hid (below_step HB5.out hB6)
        have hs6 := hB6.size
        have HG1 := Lib.hid hg1
        have HCU := Lib.hid hcur
        have HTL := Lib.hid htl
        obtain ⟨m, hm⟩ : ∃ m, m = (rowTx ts (t k) ts.length).length := ⟨_, rfl⟩
        have HM := Lib.hid hm
        rw [← hm]
        have OWN := owns_below HROW.out.own HB6.out
        rw [← HQL.out] at OWN
        have HOWN := Lib.hid OWN
        have HOA := Lib.hid (World.ownsRow.alloc OWN (.cells #[.slice (some ⟨g1, 0, none⟩) m c1] 38 (0, 0)))
        clear hB6 hcur htl hm OWN hg1
        go_wp2_with (at_builtin; refine wpList_append_own_at _ rfl _ _ 26 rfl B2 38 i0 (.slice none 0 0) 1 24 Tryz.underlying26 hi0 hzz hzs hzb rfl (by decide) (.slice va q vc) q vs rfl HOA.out ⟨w6.heap.size, 0, none⟩ 1 1 [.slice (some ⟨g1, 0, none⟩) m c1] rfl rfl (cell_one_new _ _ _) (by simp [Value.oneCell']) (by unfold maxLen; omega) (by omega) (by simp; omega) ?_; intro v3 w7 hown3 hg3 hnil3 hat3)
        obtain ⟨g3, c3, rfl, _, _, _⟩ := owns_some hown3 (fun e => by have := hnil3.1 e; simp [HVA.out] at this)
        have HNR : Hid (SumsW B2 w7 (some ⟨g3, 0, none⟩) c3 (pBase ts t (k + 1)) (fun j => if j = q then g1 else gb j) (vs ++ [.slice (some ⟨g1, 0, none⟩) m c1])) := Lib.hid (by
          rw [HKZ.out, HM.out]
          refine SumsW.next HQL.out HROW.out HB6.out (by omega) (by have := HG1.out; omega) HCU.out HTL.out _ (by rw [← HM.out]; exact hown3) hg3 ?_
          rcases hat3 with h | h
          · left; rw [← h]; rfl
          · right; simpa [Value.ownBlock] using h)
        have BB := Lib.hid (((HB.out.trans (HB6.out.mono (by omega))).alloc (by omega) (.cells #[.slice (some ⟨g1, 0, none⟩) m c1] 38 (0, 0))).grown hg3 (by simp; omega) (fun b e => (HOWN.out.lt b e).1))
        clear hown3 hg3 hnil3 hat3
        exact ⟨⟨k + 1, q + 1, some ⟨g3, 0, none⟩, c3, _, _, by omega, by simp, by go_num, rfl, by rw [HKZ.out, List.length_append, ← HQL.out]; rfl, HNR.out, BB.out⟩, by simp [intOf]; omega⟩
    · have hk18 : k = 18 := by omega
      obtain ⟨gv, rfl, _⟩ := owns_addr HROW.out.own HVA.out
      subst hk18
      go_wp2_with fail
      go_ret
      exact ⟨HW.out, gv, vc, gb, vs, by rw [← HQL.out]; rfl, HROW.out.mono hwB⟩

theorem Sp.beyond {L n : Nat} {R : (Nat → Int) → Prop} (hR : ∀ r, R r → ∀ j, L ≤ j → r j = 0) {v : Nat → Int} (h : Sp n R v) : ∀ j, L ≤ j → j < n → v j % 101 = 0 := by
  induction h with
  | zero h => exact fun j _ hj => h j hj
  | @step u v r c _ hr h ih =>
    intro j hL hj
    have h1 := h j hj
    have h2 := ih j hL hj
    rw [hR r hr j hL, Int.mul_zero, Int.add_zero] at h1
    omega

/-- The sums of a base, however it was found. -/
def BaseSet (ss : List ByteArray) (xss zss : List (List (Int × ByteArray))) : Prop :=
  ∃ ts t, quadsOf ss = some ts ∧ (xss.length ≤ 20 ∧ RowsAll ts xss) ∧ Bs ts.length t ∧ (∀ v, Sp ts.length (BsR ts.length t) v ↔ Sp ts.length (RS ts xss xss.length) v) ∧ zss = qBase ts t

theorem BaseSet.unique {ss : List ByteArray} {xss zss zss' : List (List (Int × ByteArray))} (h : BaseSet ss xss zss) (h' : BaseSet ss xss zss') : zss = zss' := by
  obtain ⟨ts, t, h1, _, h2, h3, rfl⟩ := h
  obtain ⟨ts', t', h1', _, h2', h3', rfl⟩ := h'
  rw [h1] at h1'
  cases h1'
  exact qBase_congr (Bs.unique h2 h2' (fun i hi => (h3' _).2 ((h3 _).1 (Sp.of ⟨i, hi, rfl⟩))) fun i hi => (h3 _).2 ((h3' _).1 (Sp.of ⟨i, hi, rfl⟩)))

theorem BaseSet.good {ss : List ByteArray} {xss zss : List (List (Int × ByteArray))} (h : BaseSet ss xss zss) (hb : BaseBad ss xss) : False := by
  obtain ⟨ts, t, h1, ⟨h2, h3⟩, _⟩ := h
  exact hb.not h1 h2 h3

theorem rowTx_small {ts : List T} (h : ∀ t ∈ ts, t.wf ∧ t.leaves = 3 ∧ t.nodes = 2) {f : Nat → Int} {c : Nat} {p : Int × ByteArray} (hp : p ∈ rowTx ts f c) : p.2.size ≤ 1048576 := by
  obtain ⟨v, x⟩ := p
  obtain ⟨j, _, hj, _, _, rfl⟩ := (rowTx_mem c).1 hp
  have := h _ (List.getElem_mem hj)
  have := text_length (ts[j])
  show (ts[j]).text.toArray.size ≤ 1048576
  rw [List.size_toArray]
  omega

theorem lensTo_le {yss : List (List (Int × ByteArray))} (h : ∀ j (h : j < yss.length), (yss[j]).length ≤ 18) : ∀ k, k ≤ yss.length → lensTo yss k ≤ 18 * k
  | 0, _ => Nat.le_refl _
  | k + 1, hk => by
    have := lensTo_le h k (by omega)
    have := h k (by omega)
    rw [lensTo_next (by omega)]
    omega

theorem SumsW.same {B : Nat} {w w' : World} {g vc : Nat} {xss : List (List (Int × ByteArray))} {gb : Nat → Nat} {vs : List Value} (h : SumsW B w (some ⟨g, 0, none⟩) vc xss gb vs) (hs : ∀ b, B ≤ b → b < w.heap.size → w'.heap[b]? = w.heap[b]?) : SumsW B w' (some ⟨g, 0, none⟩) vc xss gb vs :=
  ⟨⟨h.own.1, by
    rcases h.own.2 with e | ⟨g', cap, cur, e, hb, hc, r⟩
    · exact .inl e
    · exact .inr ⟨g', cap, cur, e, hb, (hs g' hb (Array.getElem?_eq_some_iff.1 hc).1).trans hc, r⟩⟩, fun j hj => by
    obtain ⟨h1, h2, h3, ⟨cur, h4, h5⟩, h6, h7⟩ := h.row j hj
    have hk := hs (gb j) h2 (Array.getElem?_eq_some_iff.1 h4).1
    exact ⟨h1, h2, h3, ⟨cur, hk.trans h4, h5⟩, h6.block hk, h7⟩⟩

/-- Lists without elements: compared, marked, held. -/
theorem eqTermSS_none (a b : Option Addr) (ca cb : Nat) (w : World) : Calls Tryz.prog 13 #[.slice a 0 ca, .slice b 0 cb] w (Ans (.bool true) w) := by
  go_enter Tryz.func13, Tryz.ntmps13
  go_wp2_with fail
  go_rounds 1
  go_ret
  exact ⟨rfl, Below.refl _ _⟩
theorem markTermSS_none (a : Option Addr) (ca : Nat) (m : Int) (w : World) : Calls Tryz.prog 16 #[.slice a 0 ca, .int .i64 m] w (Ans (.int .i64 m) w) := by
  go_enter Tryz.func16, Tryz.ntmps16
  go_wp2_with fail
  go_rounds 1
  go_ret
  exact ⟨rfl, Below.refl _ _⟩
theorem heldTermSS_none (a : Option Addr) (ca : Nat) (m : Int) (w : World) : Calls Tryz.prog 17 #[.slice a 0 ca, .int .i64 m] w (Ans (.int .i64 m) w) := by
  go_enter Tryz.func17, Tryz.ntmps17
  go_wp2_with fail
  go_rounds 1
  go_ret
  exact ⟨rfl, Below.refl _ _⟩

theorem BaseIs.set {ss : List ByteArray} {xss zss : List (List (Int × ByteArray))} (h : BaseIs ss xss zss) : BaseSet ss xss zss := by
  obtain ⟨ts, fs, s, rest, h1, h2, h3, rfl⟩ := h
  exact ⟨ts, s, h1, ⟨h2.1, h2.all⟩, h3.base, fun v => (h3.done v).trans ⟨Sp.mono fun y hy => Sp.of ((h2.mem y).1 hy), Sp.mono fun y hy => Sp.of ((h2.mem y).2 hy)⟩, rfl⟩

theorem rowZ_head {n : Nat} {t : Nat → Nat → Int} (h : Bs n t) {c : Nat} (hc : c < 18) : rowZ (t c) = true ↔ ¬ t c c = 1 := by
  rw [rowZ_iff]
  constructor
  · intro h0 e
    rw [h0 c hc] at e
    cases e
  · intro hne j _
    rcases h.row c with h0 | ⟨_, h1, _⟩
    · exact h0 j
    · exact absurd h1 hne

theorem pBase_heads (ts : List T) {n : Nat} {t : Nat → Nat → Int} (h : Bs n t) : ∀ c, c ≤ 18 → pBase ts t c = (headL t c).map fun i => rowTx ts (t i) ts.length
  | 0, _ => rfl
  | c + 1, hc => by
    rw [pBase, headL, List.map_append, pBase_heads ts h c (by omega)]
    by_cases e : t c c = 1
    · rw [if_pos e, if_neg (fun hz => (rowZ_head h (by omega)).1 hz e)]; rfl
    · rw [if_neg e, if_pos ((rowZ_head h (by omega)).2 e)]; rfl

theorem headL_beyond {t : Nat → Nat → Int} {L : Nat} (h : ∀ i, L ≤ i → ¬ t i i = 1) : ∀ k, headL t (L + k) = headL t L
  | 0 => rfl
  | k + 1 => by rw [← Nat.add_assoc, headL, headL_beyond h k, if_neg (h _ (by omega)), List.append_nil]

theorem qBase_map (ts : List T) (t : Nat → Nat → Int) : qBase ts t = (headL t ts.length).map fun i => rowTx ts (t i) ts.length := by
  unfold qBase
  refine List.ext_getElem? fun k => ?_
  by_cases hk : k < (headL t ts.length).length
  · rw [sumsOf_get ts _ _ hk, List.getElem?_map, List.getElem?_eq_getElem hk, ofH_at hk]; rfl
  · rw [List.getElem?_eq_none (by rw [sumsOf_length]; omega), List.getElem?_eq_none (by rw [List.length_map]; omega)]

theorem BaseSet.small {ss : List ByteArray} {xss zss : List (List (Int × ByteArray))} (h : BaseSet ss xss zss) : zss.length ≤ 18 ∧ ∀ j (h : j < zss.length), Small1 zss[j] ∧ (zss[j]).length ≤ 18 := by
  obtain ⟨ts, t, h1, _, _, _, rfl⟩ := h
  obtain ⟨q1, q2, _⟩ := quadsOf_ok h1
  rw [qBase_map]
  refine ⟨by rw [List.length_map]; have := headL_le t ts.length; omega, fun j hj => ?_⟩
  rw [List.getElem_map]
  have := rowTx_le ts (t ((headL t ts.length)[j]'(by simpa using hj))) ts.length
  exact ⟨⟨by omega, fun i hi => rowTx_small q2 (List.getElem_mem hi)⟩, by omega⟩

theorem spanIs_set {ss : List ByteArray} {xss : List (List (Int × ByteArray))} {ts : List T} {t : Nat → Nat → Int} (hq : quadsOf ss = some ts) (h20 : xss.length ≤ 20) (h : SpanIs ts xss xss.length t) : BaseSet ss xss (pBase ts t 18) := by
  obtain ⟨h1, h2, hra⟩ := h
  have hL := (quadsOf_ok hq).1
  have hR : ∀ r, RS ts xss xss.length r → ∀ j, ts.length ≤ j → r j = 0 := fun r hr => by
    obtain ⟨_, _, _, e⟩ := hr
    exact qRowOf_wide e
  have hz : ∀ i, ts.length ≤ i → ∀ j, t i j = 0 := fun i hi => by
    rcases h1.row i with h0 | ⟨hi18, h1', _⟩
    · exact h0
    · have := Sp.beyond hR ((h2 _).1 (Sp.of ⟨i, hi18, rfl⟩)) i hi hi18
      rw [h1'] at this
      cases this
  have hb : Bs ts.length t := ⟨h1.rng, fun i => by
    rcases h1.row i with h0 | ⟨_, h1', h2', h3'⟩
    · exact .inl h0
    · by_cases hi : i < ts.length
      · exact .inr ⟨hi, h1', h2', h3'⟩
      · exact .inl (hz i (by omega))⟩
  refine ⟨ts, t, hq, ⟨h20, fun j hj => hra j hj hj⟩, hb, fun v => ⟨Sp.mono fun y hy => ?_, Sp.mono fun y hy => ?_⟩, ?_⟩
  · obtain ⟨i, hi, rfl⟩ := hy
    exact Sp.narrow hL ((h2 _).1 (Sp.of ⟨i, by omega, rfl⟩))
  · refine (Sp.narrow hL ((h2 y).2 (Sp.of hy))).mono fun r hr => ?_
    obtain ⟨i, hi, rfl⟩ := hr
    by_cases hiL : i < ts.length
    · exact Sp.of ⟨i, hiL, rfl⟩
    · exact .zero fun j _ => by rw [hz i (by omega) j]; rfl
  · rw [pBase_heads ts h1 18 (by omega), qBase_map]
    have e := headL_beyond (t := t) (L := ts.length) (fun i hi => by rw [hz i hi i]; omega) (18 - ts.length)
    rw [show ts.length + (18 - ts.length) = 18 by omega] at e
    rw [e]

/-- What 'QuadBase' answers by the program. -/
def IBasePost (ss : List ByteArray) (xss : List (List (Int × ByteArray))) (w : World) (e : Ending) (w' : World) : Prop :=
  Below w.heap.size w w' ∧ ((BaseBad ss xss ∧ e = .returned (.tuple #[.slice none 0 0, .bool false])) ∨
    ∃ zss g c gb vs, BaseSet ss xss zss ∧ zss.length ≤ 18 ∧ e = .returned (.tuple #[.slice (some ⟨g, 0, none⟩) zss.length c, .bool true]) ∧ SumsW w.heap.size w' (some ⟨g, 0, none⟩) c zss gb vs)

theorem SpanBad.base {ss : List ByteArray} {xss : List (List (Int × ByteArray))} (h : SpanBad ss xss) : BaseBad ss xss := by
  rcases h with h | ⟨ts, h, h'⟩
  · exact .inl h
  · exact .inr ⟨ts, h, h'⟩

set_option maxRecDepth 100000 in
set_option maxHeartbeats 4000000 in
theorem iQuadBase_any (ss : List ByteArray) (xss : List (List (Int × ByteArray))) (n m : Nat) (hns : n = ss.length) (hmx : m = xss.length) (ga ca gx cx : Nat) (w : World) (hn : n ≤ 1048576) (hca : n ≤ ca) (hm : m ≤ 1048576)
    (hz : ∀ j (h : j < ss.length), (ss[j]).size ≤ 1048576) (hzx : ∀ j (h : j < xss.length), Small1 xss[j]) (hl : TxG w ga ss) (hlx : TermsL w gx xss) :
    Calls Tryz.prog 12 #[.slice (some ⟨ga, 0, none⟩) n ca, .slice (some ⟨gx, 0, none⟩) m cx] w (IBasePost ss xss w) := by
  have HRS := Lib.hid (readSpan_any ss xss n m hns hmx ga ca gx cx w hn hca hm hz hzx hl hlx)
  clear hns hmx hz hzx hl hlx
  go_enter Tryz.func12, Tryz.ntmps12
  go_wp2_with fail
  refine HRS.out.mono ?_
  rintro e w1 ⟨hB1, ⟨hbad, cq, hqs, hqo, rfl⟩ | ⟨ts, gt, c1, t, hyes, h20, hsp, rfl, htx⟩⟩
  · have HQS := Lib.hid hqs
    have HQO := Lib.hid hqo
    obtain ⟨w2, w3, hw2, hw3, h7, h8, g7, g8, hb3, _, _⟩ := two_new hB1 cq (sarr fun _ _ => 0)
    have HW2 := Lib.hid hw2
    have HW3 := Lib.hid hw3
    have H7 := Lib.hid h7
    have H8 := Lib.hid h8
    have HB3 := Lib.hid hb3
    have HE := Lib.hid hbad.base
    clear hqs hqo hB1 hbad hw2 hw3 h7 h8 g7 g8 hb3
    go_wp2_with (first
      | (rw [← HW2.out]; refine wpList_store_row rfl 55 (.tmp 6) (.tmp 13) rfl w1.heap.size cq rfl rfl 55 _ H7.out (by rw [HQS.out]; exact infoQ) (by rw [HQS.out]; rfl) HQO.out ?_)
      | (refine wpList_store_row rfl 57 (.tmp 7) (.tmp 14) rfl (w1.heap.size + 1) (sarr fun _ _ => 0) rfl rfl 57 _ H8.out (by rw [sarr_size]; exact infoS) (by rw [sarr_size]) (sarr_one _) ?_; rw [← HW3.out]))
    go_ret2
    exact ⟨HB3.out, .inl ⟨HE.out, rfl⟩⟩
  · obtain ⟨q1, q2, q3⟩ := quadsOf_ok hyes
    obtain ⟨L, hL⟩ : ∃ L, L = ts.length := ⟨_, rfl⟩
    rw [← hL]
    obtain ⟨cq, hcq⟩ : ∃ cq, cq = qcells (.slice (some ⟨gt, 0, none⟩) L c1) (sgn ts) := ⟨_, rfl⟩
    rw [← hcq]
    have HQS : Hid (cq.size = 19) := Lib.hid (by rw [hcq, qcells_size])
    have HQO : Hid (cq.all (·.oneCell') = true) := Lib.hid (by rw [hcq]; exact qcells_one rfl _)
    obtain ⟨w2, w3, hw2, hw3, h7, h8, g7, g8, hb3, hb13, hs3⟩ := two_new hB1 cq (sarr t)
    have htx3 := htx.below hb13
    have HW2 := Lib.hid hw2
    have HW3 := Lib.hid hw3
    have H7 := Lib.hid h7
    have H8 := Lib.hid h8
    have G7 := Lib.hid g7
    have G8 := Lib.hid g8
    have HB3 := Lib.hid hb3
    have HS3 := Lib.hid hs3
    have HSET := Lib.hid (spanIs_set hyes h20 hsp)
    have HLE := Lib.hid (pBase_le ts t 18)
    obtain ⟨fs, hfs⟩ := descQ2
    have HFS := Lib.hid hfs
    have hba := qBaseI_any ts t L hL gt c1 (sgn ts) w3 (by omega) htx3
    obtain ⟨zss, hzs⟩ : ∃ zss, zss = pBase ts t 18 := ⟨_, rfl⟩
    rw [← hcq, ← hzs] at hba
    rw [← hzs] at HSET HLE
    have HBA := Lib.hid hba
    clear hB1 hyes h20 hsp htx q1 q2 q3 hL hcq hw2 hw3 h7 h8 g7 g8 hb3 hb13 hs3 hfs htx3 hba hzs
    go_wp2_with (first
      | (rw [← HW2.out]; refine wpList_store_row rfl 55 (.tmp 6) (.tmp 13) rfl w1.heap.size cq rfl rfl 55 _ H7.out (by rw [HQS.out]; exact infoQ) (by rw [HQS.out]; rfl) HQO.out ?_)
      | (refine wpList_store_row rfl 57 (.tmp 7) (.tmp 14) rfl (w1.heap.size + 1) (sarr t) rfl rfl 57 _ H8.out (by rw [sarr_size]; exact infoS) (by rw [sarr_size, sarr_size]) (sarr_one _) ?_; rw [← HW3.out])
      | (refine wpList_load_row rfl 55 (.tmp 6) rfl w1.heap.size rfl 55 cq (0, 0) (.struct fs) G7.out HFS.out rfl (by rw [HQS.out]; exact infoQ) ?_)
      | (refine wpList_load_row rfl 57 (.tmp 7) rfl (w1.heap.size + 1) rfl 57 (sarr t) (0, 0) _ G8.out descS rfl (by rw [sarr_size]; exact infoS) ?_))
    refine HBA.out.mono ?_
    rintro e w4 ⟨hB4, g, c, gb, vs, rfl, hsw⟩
    have HB4 := Lib.hid (below_step HB3.out hB4)
    have HSW := Lib.hid (hsw.mono (B' := w.heap.size) HB3.out.size)
    clear hB4 hsw
    go_wp2_with fail
    go_ret2
    exact ⟨HB4.out, .inr ⟨zss, g, c, gb, vs, HSET.out, HLE.out, rfl, HSW.out⟩⟩
end Go.Proofs.YtoeebipahifpcaaGreat
