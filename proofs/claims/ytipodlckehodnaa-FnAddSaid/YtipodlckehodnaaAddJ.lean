/- SumAdd by the program. -/
import Derived.Test.YtipodlckehodnaaAddI
import Derived.Test.YtipodlckehodnaaAddS
namespace Go.Proofs.Ytipodlckehodnaa
open Go.RowKit

set_option maxRecDepth 100000 in
set_option maxHeartbeats 2000000 in
theorem iSumAdd_post (xs ys : List (Int × ByteArray)) (n n' : Nat) (hnx : n = xs.length) (hny : n' = ys.length) (g cap g' cap' : Nat) (w : World) (hn : n ≤ 1048576) (hn' : n' ≤ 1048576) (hz : ∀ j (h : j < xs.length), (xs[j]).2.size ≤ 1048576) (hz' : ∀ j (h : j < ys.length), (ys[j]).2.size ≤ 1048576) (hl : TermL w g xs) (hl' : TermL w g' ys) :
    Calls Try.prog 17 #[.slice (some ⟨g, 0, none⟩) n cap, .slice (some ⟨g', 0, none⟩) n' cap'] w (TermsPost (addOf xs ys) w) := by
  have HR := Lib.hid (readSums_any xs ys n n' hnx hny g cap g' cap' w hn hn' hz hz' hl hl')
  clear hnx hny hz hz' hl hl'
  go_enter Try.func17, Try.ntmps17
  go_wp2_with fail
  refine HR.out.mono ?_
  rintro e w1 ⟨hB1, ⟨hno, rfl⟩ | ⟨ps, qs, gp, c, gq, c', hyes, hyes', rfl, hrd, hrd'⟩⟩
  · have HN : Hid (addOf xs ys = none) := Lib.hid (by rcases hno with h | h; exact addOf_no1 h; exact addOf_no2 h)
    have HB1 := Lib.hid hB1
    clear hno hB1
    go_wp2_with fail
    go_ret2
    exact ⟨(HB1.out.alloc HB1.out.size _).alloc (by have := HB1.out.size; simp; omega) _, .inl ⟨HN.out, _, _, rfl⟩⟩
  · have HB1 := Lib.hid hB1
    have HRD := Lib.hid hrd
    have HRD' := Lib.hid hrd'
    obtain ⟨h60, htr, _⟩ := sum_trees hyes
    obtain ⟨h60', htr', _⟩ := sum_trees hyes'
    have HIN := Lib.hid (addOf_in hyes hyes')
    have HOK : Hid (∀ p ∈ canon (ps ++ qs), p.2.wf ∧ p.2.leaves ≤ 1000 ∧ p.2.nodes ≤ 1000) := Lib.hid (canon_tree (fun p hp => by
      rcases List.mem_append.1 hp with h | h
      · have h2 := htr p h; exact ⟨h2.1, by omega, by omega⟩
      · have h2 := htr' p h; exact ⟨h2.1, by omega, by omega⟩))
    have HPS : Hid (∀ p ∈ ps ++ qs, p.2.wf ∧ p.2.leaves ≤ 1000 ∧ p.2.nodes ≤ 1000 ∧ -1000000 ≤ p.1 ∧ p.1 ≤ 1000000) := Lib.hid (fun p hp => by
      rcases List.mem_append.1 hp with h | h
      · have h2 := htr p h; exact ⟨h2.1, by omega, by omega, by omega, by omega⟩
      · have h2 := htr' p h; exact ⟨h2.1, by omega, by omega, by omega, by omega⟩)
    have HCL : Hid ((canon (ps ++ qs)).length ≤ 1000000) := Lib.hid (by have h1 := canon_length (ps ++ qs); rw [List.length_append] at h1; omega)
    obtain ⟨n1, hn1⟩ : ∃ n1, n1 = ps.length := ⟨_, rfl⟩
    obtain ⟨n2, hn2⟩ : ∃ n2, n2 = qs.length := ⟨_, rfl⟩
    have HN1 := Lib.hid hn1
    have HN2 := Lib.hid hn2
    rw [← hn1, ← hn2]
    rw [← hn1] at h60
    rw [← hn2] at h60'
    obtain ⟨w2, hw2⟩ : ∃ w2, w2 = (w1.alloc (.cells #[.func (.func 57) #[] #[], .slice (some ⟨gp, 0, none⟩) n1 c] 65 (0, 0))).alloc (.cells #[.func (.func 57) #[] #[], .slice (some ⟨gq, 0, none⟩) n2 c'] 65 (0, 0)) := ⟨_, rfl⟩
    have hB2 : Below w1.heap.size w1 w2 := by rw [hw2]; exact ((Below.refl _ _).alloc (Nat.le_refl _) _).alloc (by simp) _
    have hS : w2.heap[w1.heap.size]? = some (.cells #[.func (.func 57) #[] #[], .slice (some ⟨gp, 0, none⟩) n1 c] 65 (0, 0)) := by rw [hw2, Below.heap_alloc _ _ _ (by simp)]; exact heap_alloc_new w1 _
    have hU : w2.heap[w1.heap.size + 1]? = some (.cells #[.func (.func 57) #[] #[], .slice (some ⟨gq, 0, none⟩) n2 c'] 65 (0, 0)) := by
      rw [hw2]
      have := heap_alloc_new (w1.alloc (.cells #[.func (.func 57) #[] #[], .slice (some ⟨gp, 0, none⟩) n1 c] 65 (0, 0))) (.cells #[.func (.func 57) #[] #[], .slice (some ⟨gq, 0, none⟩) n2 c'] 65 (0, 0))
      simpa using this
    have HW2 := Lib.hid hw2
    have HB2 := Lib.hid (below_step HB1.out hB2)
    have HBX := Lib.hid hB2
    obtain ⟨s0, s1, _, _⟩ := two_cells hS
    obtain ⟨u0, u1, _, _⟩ := two_cells hU
    have HAS := Lib.hid (fun (W : World) (hb : Below w1.heap.size w1 W) => addSums_any ps qs n1 n2 HN1.out HN2.out gp c gq c' W (by omega) (by omega) HPS.out (HRD.out.below (by decide) hb) (HRD'.out.below (by decide) hb))
    clear hn1 hn2 hw2 hB2 hS hU hB1 hrd hrd' hyes hyes' htr htr'
    go_wp2_with fail
    rw [← HW2.out]
    refine (HAS.out _ HBX.out).mono ?_
    rintro e w3 ⟨hB3, ⟨hal, rfl⟩ | ⟨hal, g6, c6, rfl, hr6⟩⟩
    · have HN : Hid (addOf xs ys = none) := Lib.hid (by rw [HIN.out, if_neg (by rw [hal]; decide)])
      have HB3 := Lib.hid (below_step HB2.out hB3)
      clear hal hB3
      go_wp2_with fail
      go_ret2
      exact ⟨HB3.out.alloc HB3.out.size _, .inl ⟨HN.out, _, _, rfl⟩⟩
    · have HV : Hid (addOf xs ys = outOf (canon (ps ++ qs))) := Lib.hid (by rw [HIN.out, if_pos hal])
      have HB3 := Lib.hid (below_step HB2.out hB3)
      obtain ⟨w4, hw4⟩ : ∃ w4, w4 = w3.alloc (.cells #[.func (.func 57) #[] #[], .slice (some ⟨g6, 0, none⟩) (canon (ps ++ qs)).length c6] 65 (0, 0)) := ⟨_, rfl⟩
      have HW4 := Lib.hid hw4
      have hb4 : Below w3.heap.size w3 w4 := by rw [hw4]; exact (Below.refl _ _).alloc (Nat.le_refl _) _
      have HB4 := Lib.hid (below_step HB3.out hb4)
      have HBT := Lib.hid (boundedTerms_any (canon (ps ++ qs)) _ rfl g6 c6 w4 HCL.out HOK.out (hr6.below (by decide) hb4))
      clear hal hB3 hr6 hw4 hb4
      go_wp2_with fail
      rw [← HW4.out]
      refine HBT.out.mono ?_
      rintro e w7 ⟨hB7, hres⟩
      have HB7 := Lib.hid (below_step HB4.out hB7)
      rcases hres with ⟨hno, a3, c3, rfl⟩ | ⟨rs, g3, c3, cur, hyes, rfl, hg3, hcur, hcs, hl3⟩
      · have HQ : Hid (addOf xs ys = none) := Lib.hid (by rw [HV.out, hno])
        clear hno
        go_wp2_with fail
        go_ret2
        exact ⟨HB7.out, .inl ⟨HQ.out, _, _, rfl⟩⟩
      · have HQ : Hid (addOf xs ys = some rs) := Lib.hid (by rw [HV.out, hyes])
        have HRES : Hid (w4.heap.size ≤ g3 ∧ w7.heap[g3]? = some (.cells cur 32 (0, 0)) ∧ rs.length * 2 ≤ cur.size ∧ TermL w7 g3 (txtTm rs)) := Lib.hid ⟨hg3, hcur, hcs, hl3⟩
        clear hyes hcur hcs hl3
        go_wp2_with fail
        go_ret2
        obtain ⟨h1, h2, h3, h4⟩ := HRES.out
        exact ⟨HB7.out, .inr ⟨rs, g3, c3, cur, HQ.out, rfl, Nat.le_trans HB4.out.size h1, h2, h3, h4⟩⟩

theorem iSumAdd_any (xs ys : List (Int × ByteArray)) (n n' : Nat) (hnx : n = xs.length) (hny : n' = ys.length) (g cap g' cap' : Nat) (w : World) (hn : n ≤ 1048576) (hn' : n' ≤ 1048576) (hz : ∀ j (h : j < xs.length), (xs[j]).2.size ≤ 1048576) (hz' : ∀ j (h : j < ys.length), (ys[j]).2.size ≤ 1048576) (hl : TermL w g xs) (hl' : TermL w g' ys) :
    Calls Try.prog 17 #[.slice (some ⟨g, 0, none⟩) n cap, .slice (some ⟨g', 0, none⟩) n' cap'] w (TermsAny (addOf xs ys) w) :=
  (iSumAdd_post xs ys n n' hnx hny g cap g' cap' w hn hn' hz hz' hl hl').mono fun _ _ h => h.any
end Go.Proofs.Ytipodlckehodnaa
