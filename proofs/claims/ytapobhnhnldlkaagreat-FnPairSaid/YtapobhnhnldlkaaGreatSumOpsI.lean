/- The program: multiples of a sum, a sum mirrored; SumScale, SumMirror. -/
import Derived.Test.YtapobhnhnldlkaaGreatKBndX
import Derived.Test.YtapobhnhnldlkaaGreatMirrorI
import Derived.Deep.RegionLaw
import Derived.Laws.EntriesVeiled
namespace Go.Proofs.YtapobhnhnldlkaaGreat
open Go.RowKit

set_option maxRecDepth 100000 in
set_option maxHeartbeats 4000000 in
theorem times_any (ps : List Tm) (m : Int) (n : Nat) (hn : n = ps.length) (g cap : Nat) (w : World) (hn2 : n ≤ 1000) (hm1 : -1000000 ≤ m) (hm2 : m ≤ 1000000)
    (hps : ∀ p ∈ ps, p.2.wf ∧ p.2.leaves ≤ 1000 ∧ p.2.nodes ≤ 1000 ∧ 1 ≤ p.1 ∧ p.1 ≤ 100) (hr : Rd tmI w (fun _ => True) (some ⟨g, 0, none⟩) ps) :
    Calls Tryz.prog 19 #[.agg #[.func (.func 27) #[] #[], .slice (some ⟨g, 0, none⟩) n cap], .int .i64 m] w (CombPost (fun b => b < w.heap.size) (sclI m ps) w) := by
  obtain ⟨i0, hi0, hzz, hzs, hzb⟩ := info_parts infoPt
  have HPS := Lib.hid hps
  have HRR := Lib.hid (hr.weak (P' := fun b => b < w.heap.size) (by decide) (fun _ _ h => h))
  have HNN := Lib.hid hn
  have HMP := Lib.hid (fun W => modPrime_any m W (by omega) (by omega))
  obtain ⟨mm, hmm⟩ : ∃ mm, mm = m % 101 := ⟨_, rfl⟩
  have hmb : 0 ≤ mm ∧ mm ≤ 100 := by omega
  have HMM := Lib.hid hmm
  rw [← hmm] at HMP
  clear hps hr hn hmm
  go_enter Tryz.func19, Tryz.ntmps19
  go_wp2_with fail
  obtain ⟨w0, hw0⟩ : ∃ w0, w0 = (w.alloc (.cells #[.func (.func 27) #[] #[], .slice (some ⟨g, 0, none⟩) n cap] 57 (0, 0))).alloc (.cells #[.nilFunc, .slice none 0 0] 57 (0, 0)) := ⟨_, rfl⟩
  have hsz : w0.heap.size = w.heap.size + 1 + 1 := by rw [hw0]; simp
  have HB0 : Hid (Below w.heap.size w w0) := Lib.hid (by rw [hw0]; exact ((Below.refl _ _).alloc (Nat.le_refl _) _).alloc (by simp) _)
  have HC0 : Hid (w0.heap[w.heap.size]? = some (.cells #[.func (.func 27) #[] #[], .slice (some ⟨g, 0, none⟩) n cap] 57 (0, 0))) := Lib.hid (by
    rw [hw0, Below.heap_alloc _ _ _ (by simp)]; exact heap_alloc_new w _)
  have HC1 : Hid (w0.heap[w.heap.size + 1]? = some (.cells #[.nilFunc, .slice none 0 0] 57 (0, 0))) := Lib.hid (by
    rw [hw0]
    have := heap_alloc_new (w.alloc (.cells #[.func (.func 27) #[] #[], .slice (some ⟨g, 0, none⟩) n cap] 57 (0, 0))) (.cells #[.nilFunc, .slice none 0 0] 57 (0, 0))
    simpa using this)
  rw [← hw0, ← hsz]
  have HSZ := Lib.hid hsz
  clear hw0 hsz
  go_loopw [5, 12] (fun ov iv wr => ∃ (k : Nat) (va : Option Addr) (vc : Nat) (vs : List Value), k ≤ n ∧ va ≠ none ∧ iv = .int .i64 k ∧ ov = .slice va k vc ∧ Row (tmI.inn (fun b => b < w.heap.size ∨ w0.heap.size ≤ b)) 87 w0.heap.size (sclI m (ps.take k)) (.slice va k vc) vs wr ∧ Below w0.heap.size w0 wr) (fun _ iv _ => n - (intOf iv).toNat)
  case atStart =>
    refine ⟨0, some ⟨w0.heap.size, 0, none⟩, 0, [], Nat.zero_le _, by simp, rfl, rfl, ?_, (Below.refl _ _).alloc (Nat.le_refl _) _⟩
    exact ⟨World.ownsRow_made w0 #[] 0 (Nat.le_refl _) (by simp [maxLen]) rfl, fun _ h => by simp [sclI] at h⟩
  case round =>
    obtain ⟨k, va, vc, vs, hk, hva, rfl, rfl, hrow, hB⟩ := hrel
    have HROW := Lib.hid hrow
    have HB := Lib.hid hB
    have HVA := Lib.hid hva
    have hlk : (sclI m (ps.take k)).length = k := by rw [sclI_length, List.length_take]; have := HNN.out; omega
    have HLK := Lib.hid hlk
    have HBW := Lib.hid (below_step HB0.out hB)
    have hszr : w0.heap.size ≤ wr.heap.size := hB.size
    clear hrow hva hlk
    by_cases hlt : k < n
    · have hltq : k < ps.length := by rw [← HNN.out]; exact hlt
      obtain ⟨g', x0, y0, z0, e, _, c0, c1, c2, c3, hw, ty, a, gw, wcp, rfl, rfl, rfl, hrep, hgw, hly⟩ := tmI.get (HRR.out.below (by decide) HBW.out) k hltq
      cases e
      have hq := HPS.out (ps[k]) (List.getElem_mem hltq)
      have HTK := Lib.hid (sclI_take ps m hltq)
      obtain ⟨t, ht⟩ : ∃ t, t = (ps[k]).2 := ⟨_, rfl⟩
      obtain ⟨x, hx⟩ : ∃ x, x = (ps[k]).1 := ⟨_, rfl⟩
      rw [← ht] at c2 c3 hw hrep hq hly HTK
      rw [← hx] at c0 hq HTK
      rw [← HMM.out] at HTK
      have HRK : Hid (RkI wr (fun b => b < w.heap.size) t (.iface ty (.pointer (some a))) (.slice (some ⟨gw, 0, none⟩) (t.paths []).length wcp) (.string ⟨t.text.toArray⟩)) := Lib.hid ⟨ty, a, gw, wcp, rfl, rfl, rfl, hrep, hgw, hly⟩
      obtain ⟨pl, hpl⟩ : ∃ pl, pl = (t.paths []).length := ⟨_, rfl⟩
      obtain ⟨tx, htx⟩ : ∃ tx, tx = t.text.toArray := ⟨_, rfl⟩
      rw [← hpl] at c2 HRK
      rw [← htx] at c3 HRK
      have h100 := Int.mul_le_mul_of_nonneg_right hq.2.2.2.2 hmb.1
      have h0 := Int.mul_nonneg (show 0 ≤ x by omega) hmb.1
      have hwr : IntKind.i64.wrap (x * mm) = x * mm := by rw [IntKind.wrap_i64]; omega
      clear ht hx hpl htx hrep hgw hly hB h100 h0
      go_wp2_with fail
      obtain ⟨w3, hw3⟩ : ∃ w3, w3 = wr.alloc (.cells #[.int .i64 x, .iface ty (.pointer (some a)), .slice (some ⟨gw, 0, none⟩) pl wcp, .string ⟨tx⟩] 87 (0, 0)) := ⟨_, rfl⟩
      rw [← hw3]
      have HB3 : Hid (Below wr.heap.size wr w3) := Lib.hid (by rw [hw3]; exact (Below.refl _ _).alloc (Nat.le_refl _) _)
      have hF : w3.heap[wr.heap.size]? = some (.cells #[.int .i64 x, .iface ty (.pointer (some a)), .slice (some ⟨gw, 0, none⟩) pl wcp, .string ⟨tx⟩] 87 (0, 0)) := by rw [hw3]; exact heap_alloc_new wr _
      have q0 : w3.cell? ⟨wr.heap.size, 0, none⟩ = some (.int .i64 x) := by rw [Lib.cell_of_heap hF]; rfl
      have q1 : w3.cell? ⟨wr.heap.size, 1, none⟩ = some (.iface ty (.pointer (some a))) := by rw [Lib.cell_of_heap hF]; rfl
      have q2 : w3.cell? ⟨wr.heap.size, 2, none⟩ = some (.slice (some ⟨gw, 0, none⟩) pl wcp) := by rw [Lib.cell_of_heap hF]; rfl
      have q3 : w3.cell? ⟨wr.heap.size, 3, none⟩ = some (.string ⟨tx⟩) := by rw [Lib.cell_of_heap hF]; rfl
      have OWN := owns_below HROW.out.own HB3.out
      rw [HLK.out] at OWN
      have HOWN := Lib.hid OWN
      have hs3 : wr.heap.size < w3.heap.size := World.block_lt_of_cell? w3 _ q0
      have hs30 : w0.heap.size ≤ w3.heap.size := by omega
      clear hw3 hF OWN
      go_region_law (first
        | (refine step_append_lies _ (by rfl) _ _ 55 (by rfl) w0.heap.size 87 i0 (.agg #[.int .i64 0, .nilIface, .slice none 0 0, .string ⟨#[]⟩]) 4 64 Tryz.underlying55 hi0 hzz hzs hzb rfl (by decide) (.slice va k vc) k vs (by rfl) (World.ownsRow.alloc (World.ownsRow.drew HOWN.out) (.cells #[.int .i64 (x * mm), .iface ty (.pointer (some a)), .slice (some ⟨gw, 0, none⟩) pl wcp, .string ⟨tx⟩] 87 (0, 0))) ⟨w3.heap.size, 0, none⟩ 1 1 [.int .i64 (x * mm), .iface ty (.pointer (some a)), .slice (some ⟨gw, 0, none⟩) pl wcp, .string ⟨tx⟩] (by rfl) (by rfl) (cells_four rfl _ _ _ _) (by simp [Value.oneCell']) (by decide) (by unfold maxLen; omega) (by omega) (by simp; omega) (w3.heap.size + 1) (by simp) ?_; intro gg cap' w4 hown4 hg4 hf4 hlt4)
        | (go_simp; go_at_call 36; refine (HMP.out _).mono ?_; rintro e w' ⟨rfl, rfl⟩))
      all_goals
        have NX : Row (tmI.inn (fun b => b < w.heap.size ∨ w0.heap.size ≤ b)) 87 w0.heap.size (sclI m (ps.take (k + 1))) (.slice (some ⟨gg, 0, none⟩) (k + 1) cap') (vs ++ [.int .i64 (x * mm), .iface ty (.pointer (some a)), .slice (some ⟨gw, 0, none⟩) pl wcp, .string ⟨tx⟩]) w4 := by
          have h := HROW.out.next (a := (x * mm, t)) (w1 := w3) (w1' := w3.drew.alloc (.cells #[.int .i64 (x * mm), .iface ty (.pointer (some a)), .slice (some ⟨gw, 0, none⟩) pl wcp, .string ⟨tx⟩] 87 (0, 0))) HB3.out ⟨_, _, _, rfl, hw, (HRK.out.below hw HB3.out).keep hw (fun _ _ _ h => h) (fun b hb _ => ⟨fun e => by
            have h1 := (HROW.out.own.lt b e).1
            have h2 := HSZ.out
            omega, .inl hb⟩)⟩ ((Below.refl _ _).drew.alloc (Nat.le_refl _) _) (by rw [HLK.out]; exact hown4) hg4 (by rcases hf4 with h | h; exact .inl h; exact .inr (by first | omega | (simp at h; omega)))
          rw [HLK.out] at h
          rw [HTK.out]
          exact h
        have NXX := Lib.hid NX
        have BB := Lib.hid ((((below_step HB.out HB3.out).drew).alloc hs30 (.cells #[.int .i64 (x * mm), .iface ty (.pointer (some a)), .slice (some ⟨gw, 0, none⟩) pl wcp, .string ⟨tx⟩] 87 (0, 0))).grown hg4 (by simp; omega) (fun q e => by have := (HOWN.out.lt q e).1; omega))
        clear NX hown4 hg4 hf4
        go_wp2_with fail
        go_roundw
        case rel => exact ⟨k + 1, some ⟨gg, 0, none⟩, cap', _, by omega, by simp, by go_num, rfl, NXX.out, BB.out⟩
        case measure => simp [intOf]; omega
    · have hkn : k = n := by omega
      obtain ⟨gv, rfl, _⟩ := owns_addr HROW.out.own HVA.out
      have hRD : Rd tmI wr (fun b => b < w.heap.size ∨ w0.heap.size ≤ b) (some ⟨gv, 0, none⟩) (sclI m (ps.take k)) := (HROW.out.rd.inn (fun g e h0 => .inr (HROW.out.rd_from g e h0)))
      rw [hkn, HNN.out, List.take_length] at hRD
      have HRD := Lib.hid hRD
      have HCB := Lib.hid (fun (W : World) (hb : Below wr.heap.size wr W) => combine_any (fun b => b < w.heap.size ∨ w0.heap.size ≤ b) (sclI m ps) n (by rw [sclI_length]; exact HNN.out) gv vc W (by omega) (fun p hp => by
        obtain ⟨q, hq, rfl⟩ := List.mem_map.1 hp
        have h := HPS.out q hq
        have h1 := HMM.out
        have h2 := Int.mul_le_mul_of_nonneg_right h.2.2.2.2 hmb.1
        have h3 := Int.mul_nonneg (show 0 ≤ q.1 by omega) hmb.1
        exact ⟨h.1, h.2.1, h.2.2.1, by show -1000000 ≤ q.1 * (m % 101); rw [← h1]; omega, by show q.1 * (m % 101) ≤ 1000000; rw [← h1]; omega⟩) (HRD.out.below (by decide) hb))
      have b0 := (hB.block _ (by have := HSZ.out; omega)).trans HC0.out
      have b1 := (hB.block _ (by have := HSZ.out; omega)).trans HC1.out
      have hwl : w.heap.size + 1 < wr.heap.size := by have := HSZ.out; omega
      obtain ⟨p0, p1, _, _⟩ := two_cells b0
      have HB1 := Lib.hid b1
      clear hRD b0 b1 hB
      go_wp2_with fail
      refine (HCB.out _ (Below.refl _ _)).mono ?_
      rintro e w5 ⟨hB5, g5, c5, rfl, hrd5⟩
      obtain ⟨r0, r1, fr0, fr1⟩ := two_cells ((hB5.block _ hwl).trans HB1.out)
      have HB5 := Lib.hid (below_step HBW.out hB5)
      have HR5 := Lib.hid hrd5
      have HSR := Lib.hid hB5.size
      clear hB5 hrd5
      go_wp2_with fail
      refine bodyPost_ret (v := .agg #[(.func (.func 27) #[] #[]), .slice (some ⟨g5, 0, none⟩) (canon (sclI m ps)).length c5]) (by simp [results, Tryz.results19, go_sem, r0, r1]) rfl ?_
      refine ⟨(HB5.out.setCell (p := ⟨w.heap.size + 1, 0, none⟩) (by simp) _).setCell (p := ⟨w.heap.size + 1, 1, none⟩) (by simp) _, g5, c5, rfl, ?_⟩
      refine HR5.out.keep (by decide) (fun q u hq hu => ?_) (fun b _ _ => by show b < w.heap.size ∨ w.heap.size ≤ b; omega)
      have hne : q.block ≠ w.heap.size + 1 := by
        have h2 := HSZ.out
        rcases hq with (h | h) | h <;> omega
      rw [World.cell?_of_block (w := w5)]
      · exact hu
      · rw [Below.heap_setCell _ _ _ _ hne, Below.heap_setCell _ _ _ _ hne]

theorem one_rk {w : World} {P : Nat → Prop} {t : T} {x y z : Value} {c : Int} (h : RkI w P t x y z) : ∀ u ∈ [Value.int .i64 c, x, y, z], u.oneCell' = true := by
  obtain ⟨ty, a, g, wc, rfl, rfl, rfl, _⟩ := h
  intro u hu
  simp at hu
  rcases hu with rfl | rfl | rfl | rfl <;> rfl

set_option maxRecDepth 100000 in
set_option maxHeartbeats 1000000 in
theorem iSumScale_of (xs : List (Int × ByteArray)) (n : Nat) (a : Option Addr) (cap : Nat) (m : Int) (w : World) (hr : Calls Tryz.prog 17 #[.slice a n cap] w (RSum xs w)) :
    Calls Tryz.prog 7 #[.slice a n cap, .int .i64 m] w (TermsPost (sclOf xs m) w) := by
  have HR := Lib.hid hr
  clear hr
  go_enter Tryz.func7, Tryz.ntmps7
  go_wp2_with fail
  refine HR.out.mono ?_
  rintro e w1 ⟨hB, ⟨hno, rfl⟩ | ⟨ps, gq, c, hyes, rfl, hrd⟩⟩
  · have HN : Hid (sclOf xs m = none) := Lib.hid (by rw [sclOf, hno])
    clear hno
    go_wp2_with fail
    go_ret2
    exact ⟨hB.alloc hB.size _, .inl ⟨HN.out, _, _, rfl⟩⟩
  · obtain ⟨h60, htr, _⟩ := sum_trees hyes
    have HB := Lib.hid hB
    by_cases h1 : -1000000 ≤ m
    · by_cases h2 : m ≤ 1000000
      · have e1 : decide (m < -1000000) = false := decide_eq_false (by omega)
        have e2 : decide (1000000 < m) = false := decide_eq_false (by omega)
        have HN : Hid (sclOf xs m = outOf (canon (sclI m ps))) := Lib.hid (by rw [sclOf, hyes]; simp only; rw [if_pos ⟨h1, h2⟩, canon_scl m (fun p hp => (htr p hp).1)])
        have HC := Lib.hid (fun (W : World) (hb : Below w1.heap.size w1 W) => times_any ps m ps.length rfl gq c W (by omega) h1 h2 (fun p hp => by have h := htr p hp; exact ⟨h.1, by omega, by omega, h.2.2.2.1, h.2.2.2.2⟩) (hrd.below (by decide) hb))
        have HTR : Hid (∀ p ∈ canon (sclI m ps), p.2.wf ∧ p.2.leaves ≤ 1000 ∧ p.2.nodes ≤ 1000) := Lib.hid (canon_tree (fun p hp => by
          obtain ⟨q, hq, rfl⟩ := List.mem_map.1 hp
          have h := htr q hq
          exact ⟨h.1, by show q.2.leaves ≤ 1000; omega, by show q.2.nodes ≤ 1000; omega⟩))
        have HCL := Lib.hid (show (canon (sclI m ps)).length ≤ 1000000 by have := canon_length (sclI m ps); rw [sclI_length] at this; omega)
        clear hyes hrd htr hB
        go_wp2_with fail
        refine (HC.out _ ((Below.refl _ _).alloc (Nat.le_refl _) _)).mono ?_
        rintro e w2 ⟨hB2, g2, c2, rfl, hrd2⟩
        have HBT := Lib.hid (boundedTerms_any (canon (sclI m ps)) (canon (sclI m ps)).length rfl g2 c2 w2 HCL.out HTR.out (hrd2.weak (by decide) (fun _ _ _ => trivial)))
        have HB2 := Lib.hid (below_step (HB.out.alloc HB.out.size _) hB2)
        clear hrd2 hB2
        go_wp2_with fail
        refine HBT.out.mono ?_
        rintro e w3 ⟨hB3, hres⟩
        have HB3 := Lib.hid (below_step HB2.out hB3)
        rcases hres with ⟨hno, a3, c3, rfl⟩ | ⟨qs, g3, c3, cur, hyes, rfl, hg3, hcur, hcs, hl3⟩
        · have HQ : Hid (sclOf xs m = none) := Lib.hid (by rw [HN.out, hno])
          clear hno
          go_wp2_with fail
          go_ret2
          exact ⟨HB3.out, .inl ⟨HQ.out, _, _, rfl⟩⟩
        · have HQ : Hid (sclOf xs m = some qs) := Lib.hid (by rw [HN.out, hyes])
          have HRES : Hid (w2.heap.size ≤ g3 ∧ w3.heap[g3]? = some (.cells cur 74 (0, 0)) ∧ qs.length * 2 ≤ cur.size ∧ TermL w3 g3 (txtTm qs)) := Lib.hid ⟨hg3, hcur, hcs, hl3⟩
          clear hyes hcur hcs hl3
          go_wp2_with fail
          go_ret2
          obtain ⟨h1, h2, h3, h4⟩ := HRES.out
          exact ⟨HB3.out, .inr ⟨qs, g3, c3, cur, HQ.out, rfl, Nat.le_trans HB2.out.size h1, h2, h3, h4⟩⟩
      · have e1 : decide (m < -1000000) = false := decide_eq_false (by omega)
        have e2 : decide (1000000 < m) = true := decide_eq_true (by omega)
        have HN : Hid (sclOf xs m = none) := Lib.hid (by rw [sclOf, hyes]; simp only; rw [if_neg (fun h => h2 h.2)])
        clear hyes hrd htr hB
        go_wp2_with fail
        go_ret2
        exact ⟨HB.out.alloc HB.out.size _, .inl ⟨HN.out, _, _, rfl⟩⟩
    · have e1 : decide (m < -1000000) = true := decide_eq_true (by omega)
      have HN : Hid (sclOf xs m = none) := Lib.hid (by rw [sclOf, hyes]; simp only; rw [if_neg (fun h => h1 h.1)])
      clear hyes hrd htr hB
      go_wp2_with fail
      go_ret2
      exact ⟨HB.out.alloc HB.out.size _, .inl ⟨HN.out, _, _, rfl⟩⟩

theorem iSumScale_any (xs : List (Int × ByteArray)) (n : Nat) (hnx : n = xs.length) (g cap : Nat) (m : Int) (w : World) (hn : n ≤ 1048576) (hz : ∀ j (h : j < xs.length), (xs[j]).2.size ≤ 1048576) (hl : TermL w g xs) :
    Calls Tryz.prog 7 #[.slice (some ⟨g, 0, none⟩) n cap, .int .i64 m] w (TermsPost (sclOf xs m) w) :=
  iSumScale_of xs n _ cap m w (readSum_any xs n hnx g cap w hn hz hl)

end Go.Proofs.YtapobhnhnldlkaaGreat
