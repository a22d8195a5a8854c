/- SumGraft by the program. -/
import Derived.Test.YtdjcgakmeebijaaGreatGrfI
import Derived.Test.YtdjcgakmeebijaaGreatTwoSums
import Derived.Test.YtdjcgakmeebijaaGreatKGrfS
namespace Go.Proofs.YtdjcgakmeebijaaGreat
open Go.RowKit

set_option maxRecDepth 100000 in
set_option maxHeartbeats 1000000 in
theorem graftSums_any (ps qs : List Tm) (k : Nat) (n n' : Nat) (hn : n = ps.length) (hn' : n' = qs.length) (g cap g' cap' : Nat) (w : World) (hn2 : n ≤ 60) (hn2' : n' ≤ 60)
    (hps : ∀ p ∈ ps, p.2.wf ∧ p.2.leaves ≤ 12 ∧ p.2.nodes ≤ 16 ∧ 1 ≤ p.1 ∧ p.1 ≤ 100) (hk : ∀ p ∈ ps, k < p.2.leaves) (hqs : ∀ p ∈ qs, p.2.wf ∧ p.2.leaves ≤ 12 ∧ p.2.nodes ≤ 16 ∧ 1 ≤ p.1 ∧ p.1 ≤ 100)
    (hr : Rd tmI w (fun _ => True) (some ⟨g, 0, none⟩) ps) (hr' : Rd tmI w (fun _ => True) (some ⟨g', 0, none⟩) qs) :
    Calls Tryz.prog 17 #[.agg #[.func (.func 41) #[] #[], .slice (some ⟨g, 0, none⟩) n cap], .int .i64 k, .agg #[.func (.func 41) #[] #[], .slice (some ⟨g', 0, none⟩) n' cap']] w (CombPost (fun _ => True) (grfTm k ps qs) w) := by
  obtain ⟨w0, hw0⟩ : ∃ w0, w0 = (((w.alloc (.cells #[.func (.func 41) #[] #[], .slice (some ⟨g, 0, none⟩) n cap] 42 (0, 0))).alloc (.cells #[.int .i64 (k : Int)] 3 (0, 0))).alloc (.cells #[.func (.func 41) #[] #[], .slice (some ⟨g', 0, none⟩) n' cap'] 42 (0, 0))).alloc (.cells #[.nilFunc, .slice none 0 0] 42 (0, 0)) := ⟨_, rfl⟩
  have hsz : w0.heap.size = w.heap.size + 1 + 1 + 1 + 1 := by rw [hw0]; simp
  have HB0 : Hid (Below w.heap.size w w0) := Lib.hid (by rw [hw0]; go_grown)
  have hK0 : w0.heap[w.heap.size + 1]? = some (.cells #[.int .i64 (k : Int)] 3 (0, 0)) := by
    rw [hw0, Below.heap_alloc _ _ _ (by first | (simp; done) | (simp; omega)), Below.heap_alloc _ _ _ (by first | (simp; done) | (simp; omega))]
    have := heap_alloc_new (w.alloc (.cells #[.func (.func 41) #[] #[], .slice (some ⟨g, 0, none⟩) n cap] 42 (0, 0))) (.cells #[.int .i64 (k : Int)] 3 (0, 0))
    simpa using this
  have hZ0 : w0.heap[w.heap.size + 1 + 1 + 1]? = some (.cells #[.nilFunc, .slice none 0 0] 42 (0, 0)) := by
    rw [hw0]
    have := heap_alloc_new (((w.alloc (.cells #[.func (.func 41) #[] #[], .slice (some ⟨g, 0, none⟩) n cap] 42 (0, 0))).alloc (.cells #[.int .i64 (k : Int)] 3 (0, 0))).alloc (.cells #[.func (.func 41) #[] #[], .slice (some ⟨g', 0, none⟩) n' cap'] 42 (0, 0))) (.cells #[.nilFunc, .slice none 0 0] 42 (0, 0))
    simpa using this
  have kc : w0.cell? ⟨w.heap.size + 1, 0, none⟩ = some (.int .i64 (k : Int)) := by rw [Lib.cell_of_heap hK0]; rfl
  have HP := Lib.hid (product_any (fun b => b < w.heap.size) ps qs k n n' hn hn' g cap g' cap' (w.heap.size + 1) w0 hn2 hn2' hps hk hqs ((hr.weak (P' := fun b => b < w.heap.size) (by decide) (fun _ _ h => h)).below (by decide) HB0.out) ((hr'.weak (P' := fun b => b < w.heap.size) (by decide) (fun _ _ h => h)).below (by decide) HB0.out) kc)
  have HZ0 := Lib.hid hZ0
  have HW0 := Lib.hid hw0
  have HSZ := Lib.hid hsz
  clear hn hn' hps hk hqs hr hr' hK0 hZ0 kc hw0 hsz
  go_enter Tryz.func17, Tryz.ntmps17
  go_wp2_with fail
  rw [← HW0.out]
  refine HP.out.mono ?_
  rintro e w5 ⟨hB5, g5, c5, rfl, hrd5⟩
  have hwl : w.heap.size + 1 + 1 + 1 < w0.heap.size := by have := HSZ.out; omega
  obtain ⟨r0, r1, fr0, fr1⟩ := two_cells ((hB5.block _ hwl).trans HZ0.out)
  have HB5 := Lib.hid (below_step HB0.out hB5)
  have HR5 := Lib.hid hrd5
  have hwl5 : w.heap.size + 1 + 1 + 1 < w5.heap.size := by have := hB5.size; omega
  clear hB5 hrd5
  go_wp2_with fail
  refine bodyPost_ret (v := .agg #[(.func (.func 41) #[] #[]), .slice (some ⟨g5, 0, none⟩) (canon (grfTm k ps qs)).length c5]) (by simp [results, Tryz.results17, go_sem, r0, r1]) rfl ?_
  refine ⟨(HB5.out.setCell (p := ⟨w.heap.size + 1 + 1 + 1, 0, none⟩) (by simp; omega) _).setCell (p := ⟨w.heap.size + 1 + 1 + 1, 1, none⟩) (by simp; omega) _, g5, c5, rfl, ?_⟩
  refine HR5.out.keep (by decide) (fun q u hq hu => ?_) (fun _ _ _ => .inl trivial)
  have hne : q.block ≠ w.heap.size + 1 + 1 + 1 := by
    have h2 := HSZ.out
    rcases hq with h | h <;> omega
  rw [World.cell?_of_block (w := w5)]
  · exact hu
  · rw [Below.heap_setCell _ _ _ _ hne, Below.heap_setCell _ _ _ _ hne]

set_option maxRecDepth 100000 in
set_option maxHeartbeats 2000000 in
theorem iSumGraft_any (xs ys : List (Int × ByteArray)) (n n' : Nat) (hnx : n = xs.length) (hny : n' = ys.length) (g cap g' cap' : Nat) (k : Int) (w : World) (hn : n ≤ 1048576) (hn' : n' ≤ 1048576) (hz : ∀ j (h : j < xs.length), (xs[j]).2.size ≤ 1048576) (hz' : ∀ j (h : j < ys.length), (ys[j]).2.size ≤ 1048576) (hl : TermL w g xs) (hl' : TermL w g' ys) :
    Calls Tryz.prog 5 #[.slice (some ⟨g, 0, none⟩) n cap, .int .i64 k, .slice (some ⟨g', 0, none⟩) n' cap'] w (TermsAny (grfOf xs ys k) w) := by
  have HR := Lib.hid (readSums_any xs ys n n' hnx hny g cap g' cap' w hn hn' hz hz' hl hl')
  clear hnx hny hz hz' hl hl'
  go_enter Tryz.func5, Tryz.ntmps5
  go_wp2_with fail
  refine HR.out.mono ?_
  rintro e w1 ⟨hB1, ⟨hno, rfl⟩ | ⟨ps, qs, gp, c, gq, c', hyes, hyes', rfl, hrd, hrd'⟩⟩
  · have HN : Hid (grfOf xs ys k = none) := Lib.hid (by rcases hno with h | h; exact grfOf_no1 h; exact grfOf_no2 h)
    have HB1 := Lib.hid hB1
    clear hno hB1
    go_wp2_with fail
    go_ret2
    exact ⟨(HB1.out.alloc HB1.out.size _).alloc (by have := HB1.out.size; simp; omega) _, .inl ⟨false, _, _, rfl, .inl ⟨HN.out, rfl⟩⟩⟩
  · have HB1 := Lib.hid hB1
    have HRD := Lib.hid hrd
    have HRD' := Lib.hid hrd'
    have HY := Lib.hid hyes
    have HY' := Lib.hid hyes'
    obtain ⟨n1, hn1⟩ : ∃ n1, n1 = ps.length := ⟨_, rfl⟩
    obtain ⟨n2, hn2⟩ : ∃ n2, n2 = qs.length := ⟨_, rfl⟩
    have HN1 := Lib.hid hn1
    have HN2 := Lib.hid hn2
    rw [← hn1, ← hn2]
    obtain ⟨w2, hw2⟩ : ∃ w2, w2 = (w1.alloc (.cells #[.func (.func 41) #[] #[], .slice (some ⟨gp, 0, none⟩) n1 c] 42 (0, 0))).alloc (.cells #[.func (.func 41) #[] #[], .slice (some ⟨gq, 0, none⟩) n2 c'] 42 (0, 0)) := ⟨_, rfl⟩
    have hB2 : Below w1.heap.size w1 w2 := by rw [hw2]; exact ((Below.refl _ _).alloc (Nat.le_refl _) _).alloc (by simp) _
    have hS : w2.heap[w1.heap.size]? = some (.cells #[.func (.func 41) #[] #[], .slice (some ⟨gp, 0, none⟩) n1 c] 42 (0, 0)) := by rw [hw2, Below.heap_alloc _ _ _ (by simp)]; exact heap_alloc_new w1 _
    have hU : w2.heap[w1.heap.size + 1]? = some (.cells #[.func (.func 41) #[] #[], .slice (some ⟨gq, 0, none⟩) n2 c'] 42 (0, 0)) := by
      rw [hw2]
      have := heap_alloc_new (w1.alloc (.cells #[.func (.func 41) #[] #[], .slice (some ⟨gp, 0, none⟩) n1 c] 42 (0, 0))) (.cells #[.func (.func 41) #[] #[], .slice (some ⟨gq, 0, none⟩) n2 c'] 42 (0, 0))
      simpa using this
    have HW2 := Lib.hid hw2
    have HB2 := Lib.hid (below_step HB1.out hB2)
    have HBX := Lib.hid hB2
    obtain ⟨s0, s1, _, _⟩ := two_cells hS
    obtain ⟨u0, u1, _, _⟩ := two_cells hU
    clear hn1 hn2 hw2 hB2 hS hU hB1 hrd hrd' hyes hyes'
    by_cases h1 : n1 = 0
    · have HI := Lib.hid (fun W => (isZero_any n1 gp c W))
      rw [decide_eq_true h1] at HI
      have HN : Hid (grfOf xs ys k = some []) := Lib.hid (by
        have e := HN1.out
        rw [h1] at e
        have h := HY.out
        rw [List.length_eq_zero_iff.1 e.symm] at h
        exact grfOf_nil1 h HY'.out)
      clear h1
      go_wp2_with fail
      rw [← HW2.out]
      refine (HI.out _).mono ?_
      rintro e w3 ⟨rfl, hB3⟩
      have HB3 := Lib.hid (below_step HB2.out hB3)
      clear hB3
      go_wp2_with fail
      go_ret2
      exact ⟨HB3.out, .inl ⟨true, _, _, rfl, .inr ⟨HN.out, rfl⟩⟩⟩
    · have HI := Lib.hid (fun W => (isZero_any n1 gp c W))
      rw [decide_eq_false h1] at HI
      by_cases h2 : n2 = 0
      · have HI2 := Lib.hid (fun W => (isZero_any n2 gq c' W))
        rw [decide_eq_true h2] at HI2
        have HN : Hid (grfOf xs ys k = some []) := Lib.hid (by
          have e := HN2.out
          rw [h2] at e
          have h := HY'.out
          rw [List.length_eq_zero_iff.1 e.symm] at h
          exact grfOf_nil2 HY.out h)
        clear h1 h2
        go_wp2_with fail
        rw [← HW2.out]
        refine (HI.out _).mono ?_
        rintro e w3 ⟨rfl, hB3⟩
        have u0' := keep1 hB3 u0
        have u1' := keep1 hB3 u1
        have HB3 := Lib.hid (below_step HB2.out hB3)
        clear hB3
        go_wp2_with fail
        refine (HI2.out _).mono ?_
        rintro e w4 ⟨rfl, hB4⟩
        have HB4 := Lib.hid (below_step HB3.out hB4)
        clear hB4
        go_wp2_with fail
        go_ret2
        exact ⟨HB4.out, .inl ⟨true, _, _, rfl, .inr ⟨HN.out, rfl⟩⟩⟩
      · have HI2 := Lib.hid (fun W => (isZero_any n2 gq c' W))
        rw [decide_eq_false h2] at HI2
        cases ps with
        | nil => exact absurd HN1.out h1
        | cons p ps =>
          cases qs with
          | nil => exact absurd HN2.out h2
          | cons q qs =>
            have HIN := Lib.hid (grfOf_in (k := k) HY.out HY'.out)
            obtain ⟨h60, htr, _⟩ := sum_trees HY.out
            obtain ⟨h60', htr', _⟩ := sum_trees HY'.out
            have HSL := Lib.hid (sum_leaves HY.out)
            have HTR := Lib.hid htr
            have HTR' := Lib.hid htr'
            have hp := htr p (by simp)
            obtain ⟨L, hL⟩ : ∃ L, L = p.2.leaves := ⟨_, rfl⟩
            have HLV := Lib.hid (fun (W : World) (hb : Below w1.heap.size w1 W) => sumLeaves_any p ps n1 gp c L W (by omega) hp.1 (by omega) hL (HRD.out.below (by decide) hb))
            rw [← hL] at HIN
            have HLL := Lib.hid hL
            have hl1 : n1 ≤ 60 := by have := HN1.out; omega
            have hl2 : n2 ≤ 60 := by have := HN2.out; omega
            clear h1 h2 htr htr' hL h60 h60' hp
            go_wp2_with fail
            rw [← HW2.out]
            refine (HI.out _).mono ?_
            rintro e w3 ⟨rfl, hB3⟩
            have u0' := keep1 hB3 u0
            have u1' := keep1 hB3 u1
            have s0' := keep1 hB3 s0
            have s1' := keep1 hB3 s1
            have HB3 := Lib.hid (HBX.out.trans (hB3.mono HBX.out.size))
            clear hB3 u0 u1 s0 s1
            go_wp2_with fail
            refine (HI2.out _).mono ?_
            rintro e w4 ⟨rfl, hB4⟩
            have u0 := keep1 hB4 u0'
            have u1 := keep1 hB4 u1'
            have s0 := keep1 hB4 s0'
            have s1 := keep1 hB4 s1'
            have HB4 := Lib.hid (HB3.out.trans (hB4.mono HB3.out.size))
            clear hB4 u0' u1' s0' s1'
            by_cases hk0 : k < 0
            · have e0 : decide (k < 0) = true := decide_eq_true hk0
              have HN : Hid (grfOf xs ys k = none) := Lib.hid (by rw [HIN.out, if_neg (by omega)])
              clear hk0
              go_wp2_with fail
              go_ret2
              exact ⟨below_step HB1.out HB4.out, .inl ⟨false, _, _, rfl, .inl ⟨HN.out, rfl⟩⟩⟩
            · have e0 : decide (k < 0) = false := decide_eq_false hk0
              by_cases hkL : (L : Int) ≤ k
              · have e1 : decide ((L : Int) ≤ k) = true := decide_eq_true hkL
                have HN : Hid (grfOf xs ys k = none) := Lib.hid (by rw [HIN.out, if_neg (by omega)])
                clear hk0 hkL
                go_wp2_with fail
                refine (HLV.out _ HB4.out).mono ?_
                rintro e w5 ⟨rfl, hB5⟩
                have HB5 := Lib.hid (HB4.out.trans (hB5.mono HB4.out.size))
                clear hB5
                go_wp2_with fail
                go_ret2
                exact ⟨below_step HB1.out HB5.out, .inl ⟨false, _, _, rfl, .inl ⟨HN.out, rfl⟩⟩⟩
              · have e1 : decide ((L : Int) ≤ k) = false := decide_eq_false hkL
                obtain ⟨kk, hkk⟩ : ∃ kk : Nat, (kk : Int) = k := ⟨k.toNat, by omega⟩
                subst hkk
                have e2 : decide (L ≤ kk) = false := decide_eq_false (by omega)
                have HV : Hid (grfOf xs ys (kk : Int) = outOf (canon (grfTm kk (p :: ps) (q :: qs)))) := Lib.hid (by rw [HIN.out, if_pos (by omega)]; rfl)
                have hkl : ∀ r ∈ p :: ps, kk < r.2.leaves := fun r hr => by
                  have h1 := HSL.out r hr
                  have h2 := HLL.out
                  omega
                have HGR := Lib.hid (fun (W : World) (hb : Below w1.heap.size w1 W) => graftSums_any (p :: ps) (q :: qs) kk n1 n2 HN1.out HN2.out gp c gq c' W hl1 hl2 HTR.out hkl HTR'.out (HRD.out.below (by decide) hb) (HRD'.out.below (by decide) hb))
                have HOK := Lib.hid (canon_tree (fun r hr => by have h := grfTm_ok HTR.out hkl HTR'.out r hr; exact ⟨h.1, h.2.1, h.2.2.1⟩))
                have HCL : Hid ((canon (grfTm kk (p :: ps) (q :: qs))).length ≤ 1000000) := Lib.hid (by
                  have h1 := canon_length (grfTm kk (p :: ps) (q :: qs))
                  rw [grfTm_length, ← HN1.out, ← HN2.out] at h1
                  have h2 := Nat.mul_le_mul hl1 hl2
                  omega)
                clear hk0 hkL hkl
                go_wp2_with fail
                refine (HLV.out _ HB4.out).mono ?_
                rintro e w5 ⟨rfl, hB5⟩
                have u0' := keep1 hB5 u0
                have u1' := keep1 hB5 u1
                have s0' := keep1 hB5 s0
                have s1' := keep1 hB5 s1
                have HB5 := Lib.hid (HB4.out.trans (hB5.mono HB4.out.size))
                clear hB5
                go_wp2_with fail
                refine (HGR.out _ HB5.out).mono ?_
                rintro e w6 ⟨hB6, g6, c6, rfl, hr6⟩
                have HBT := Lib.hid (boundedTerms_any (canon (grfTm kk (p :: ps) (q :: qs))) _ rfl g6 c6 w6 HCL.out HOK.out (hr6.weak (by decide) (fun _ _ _ => trivial)))
                have HB6 := Lib.hid (below_step HB1.out (HB5.out.trans (hB6.mono HB5.out.size)))
                clear hB6 hr6
                go_wp2_with fail
                refine HBT.out.mono ?_
                rintro e w7 ⟨hB7, hres⟩
                have HB7 := Lib.hid (below_step HB6.out hB7)
                rcases hres with ⟨hno, a3, c3, rfl⟩ | ⟨rs, g3, c3, cur, hyes, rfl, hg3, hcur, hcs, hl3⟩
                · have HQ : Hid (grfOf xs ys (kk : Int) = none) := Lib.hid (by rw [HV.out, hno])
                  clear hno
                  go_wp2_with fail
                  go_ret2
                  exact ⟨HB7.out, .inl ⟨false, _, _, rfl, .inl ⟨HQ.out, rfl⟩⟩⟩
                · have HQ : Hid (grfOf xs ys (kk : Int) = some rs) := Lib.hid (by rw [HV.out, hyes])
                  have HRES : Hid (w6.heap.size ≤ g3 ∧ w7.heap[g3]? = some (.cells cur 33 (0, 0)) ∧ rs.length * 2 ≤ cur.size ∧ TermL w7 g3 (txtTm rs)) := Lib.hid ⟨hg3, hcur, hcs, hl3⟩
                  clear hyes hcur hcs hl3
                  go_wp2_with fail
                  go_ret2
                  obtain ⟨h1, h2, h3, h4⟩ := HRES.out
                  exact TermsPost.any ⟨HB7.out, .inr ⟨rs, g3, c3, cur, HQ.out, rfl, Nat.le_trans HB6.out.size h1, h2, h3, h4⟩⟩
end Go.Proofs.YtdjcgakmeebijaaGreat
