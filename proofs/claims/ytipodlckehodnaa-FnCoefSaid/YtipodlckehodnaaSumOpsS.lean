/- The model: adding a multiple of a sum, mirroring a sum; SumScale, SumAdd, SumMirror. -/
import Derived.Test.YtipodlckehodnaaKSumOfS
import Derived.Test.YtipodlckehodnaaSumX
namespace Go.Proofs.Ytipodlckehodnaa
open Go.RowKit

set_option maxRecDepth 100000 in
set_option maxHeartbeats 4000000 in
theorem l3Sum_any (ps qs : List Tm) (m : Int) (n k : Nat) (hnp : n = ps.length) (hkq : k = qs.length) (ga ca : Nat) (ab : Option Addr) (cb : Nat) (w : World) (hca : n ≤ ca) (hca2 : ca ≤ 9223372036854775807) (hn : n ≤ 1000) (hk : k ≤ 1000) (hm1 : -1000000 ≤ m) (hm2 : m ≤ 1000000)
    (hnf : NF ps) (hps : ∀ p ∈ ps, p.2.wf ∧ p.2.leaves ≤ 1000 ∧ p.2.nodes ≤ 1000) (hqs : ∀ p ∈ qs, p.2.wf ∧ p.2.leaves ≤ 1000 ∧ p.2.nodes ≤ 1000 ∧ 1 ≤ p.1 ∧ p.1 ≤ 100)
    (hr : Rd tmS w (fun _ => True) (some ⟨ga, 0, none⟩) ps) (hrq : Rd tmS w (fun _ => True) ab qs) :
    Calls Try.prog 68 #[.slice (some ⟨ga, 0, none⟩) n ca, .int .i64 m, .slice ab k cb] w (NewTms (addAll ps (sclTm m qs)) w) := by
  have HNP := Lib.hid hnp
  have HKQ := Lib.hid hkq
  have HNF := Lib.hid hnf
  have HPS := Lib.hid hps
  have HQS := Lib.hid hqs
  have HRR := Lib.hid hr
  have HRQ := Lib.hid hrq
  clear hnp hkq hnf hps hqs hr hrq
  go_enter Try.func68, Try.ntmps68
  go_wp2_with fail
  go_loopw [0, 7] (fun av iv wr => ∃ (i gq cq : Nat), i ≤ k ∧ iv = .int .i64 i ∧ av = .slice (some ⟨gq, 0, none⟩) (addAll ps (sclTm m (qs.take i))).length cq ∧ (addAll ps (sclTm m (qs.take i))).length ≤ cq ∧ cq ≤ 9223372036854775807 ∧ Rd tmS wr (fun _ => True) (some ⟨gq, 0, none⟩) (addAll ps (sclTm m (qs.take i))) ∧ Below w.heap.size w wr) (fun _ iv _ => k - (intOf iv).toNat)
  case atStart =>
    have e : addAll ps (sclTm m (qs.take 0)) = ps := by simp [sclTm, addAll_nil]
    exact ⟨0, ga, ca, Nat.zero_le _, rfl, by rw [e, ← HNP.out], by rw [e, ← HNP.out]; exact hca, hca2, by rw [e]; exact HRR.out, Below.refl _ _⟩
  case round =>
    obtain ⟨i, gq, cq, hi, rfl, rfl, hq1, hq2, hrq, hB⟩ := hrel
    have HB := Lib.hid hB
    have HRI := Lib.hid hrq
    clear hrq
    obtain ⟨K, hK⟩ : ∃ K, K = addAll ps (sclTm m (qs.take i)) := ⟨_, rfl⟩
    rw [← hK] at HRI hq1
    rw [← hK]
    have HK := Lib.hid hK
    have htk : ∀ p ∈ sclTm m (qs.take i), p.2.wf ∧ p.2.leaves ≤ 1000 ∧ p.2.nodes ≤ 1000 := fun p hp => by
      obtain ⟨q, hq, rfl⟩ := List.mem_map.1 hp
      have h := HQS.out q (List.mem_of_mem_take hq)
      exact ⟨h.1, h.2.1, h.2.2.1⟩
    have hKnf : NF K := by rw [hK]; exact NF.addAll HNF.out (fun p hp => (htk p hp).1)
    have hKl : K.length ≤ n + i := by
      have := addAll_length (sclTm m (qs.take i)) ps
      rw [sclTm_length, List.length_take, ← hK, ← HNP.out] at this
      omega
    have hKt : ∀ p ∈ K, p.2.leaves ≤ 1000 ∧ p.2.nodes ≤ 1000 ∧ -1000 ≤ p.1 ∧ p.1 ≤ 1000 := fun p hp => by
      have h1 := hKnf.2 p hp
      rw [hK] at hp
      rcases mem_addAll hp with ⟨q, hq, e⟩ | ⟨q, hq, e⟩
      · have h := HPS.out q hq; rw [e]; exact ⟨h.2.1, h.2.2, by omega, by omega⟩
      · have h := htk q hq; rw [e]; exact ⟨h.2.1, h.2.2, by omega, by omega⟩
    have HKT := Lib.hid hKt
    obtain ⟨N, hN⟩ : ∃ N, N = K.length := ⟨_, rfl⟩
    rw [← hN] at hq1 hKl
    rw [← hN]
    have HN := Lib.hid hN
    clear hK htk hKnf hKt hN
    by_cases hlt : i < k
    · have hltq : i < qs.length := by rw [← HKQ.out]; exact hlt
      obtain ⟨g', lb, sa, sn, sc, rfl, _, c0, c1, c2, hw, hrep⟩ := tmS.get (HRQ.out.below (by decide) hB) i hltq
      have hq := HQS.out (qs[i]) (List.getElem_mem hltq)
      have HADD := Lib.hid (addAll_scl ps qs m hltq)
      obtain ⟨t, ht⟩ : ∃ t, t = (qs[i]).2 := ⟨_, rfl⟩
      obtain ⟨x, hx⟩ : ∃ x, x = (qs[i]).1 := ⟨_, rfl⟩
      rw [← ht] at hw hrep hq HADD
      rw [← hx] at c0 hq HADD
      have hmx : -100000000 ≤ m * x ∧ m * x ≤ 100000000 := by
        have h1 := Int.mul_le_mul_of_nonneg_right hm2 (show 0 ≤ x by omega)
        have h2 := Int.mul_le_mul_of_nonneg_right hm1 (show 0 ≤ x by omega)
        constructor <;> omega
      have hwr : IntKind.i64.wrap (m * x) = m * x := by rw [IntKind.wrap_i64]; omega
      have HAD := Lib.hid (fun (W : World) (hb : Below wr.heap.size wr W) => l3Add_any K N HN.out gq cq (m * x) t lb sa sn sc W hq1 hq2 (by omega) HKT.out hw (by omega) (by omega) (by omega) (by omega) (HRI.out.below (by decide) hb) (hrep.below hw hb))
      have k0 : (0 : Int) ≤ (i : Int) := by omega
      clear ht hx hB hrep hq hw
      go_wp2_with fail
      go_region_with (go_at_call 66; refine (HAD.out _ (Below.refl _ _).drew).mono ?_; rintro e w3 ⟨hB3, g3, cp3, rfl, hq3, hq4, hr3⟩)
      all_goals
        have HR3 := Lib.hid hr3
        have HB3 := Lib.hid (below_step HB.out ((Below.refl _ _).drew.trans hB3))
        have hadd := HADD.out
        rw [← HK.out] at hadd
        have HA := Lib.hid hadd
        clear hr3 hB3 hadd
        go_wp2_with fail
        go_roundw
        case rel => exact ⟨i + 1, g3, cp3, by omega, by go_num, by rw [HA.out], by rw [HA.out]; exact hq3, hq4, by rw [HA.out]; exact HR3.out, HB3.out⟩
        case measure => simp [intOf]; omega
    · have hin : i = k := by omega
      have HE : Hid (addAll ps (sclTm m qs) = K) := Lib.hid (by rw [HK.out, hin, HKQ.out, List.take_length])
      clear hB
      go_wp2_with fail
      go_ret
      exact ⟨HB.out, gq, cq, by rw [HE.out, ← HN.out]; rfl, by rw [HE.out, ← HN.out]; exact hq1, hq2, by rw [HE.out]; exact HRI.out⟩

theorem l3Read_none {xs : List (Int × ByteArray)} (h : sumOf xs = none) (m : Int) : sclOf xs m = none ∧ mirOf xs = none := ⟨by rw [sclOf, h], by rw [mirOf, h]⟩

set_option maxRecDepth 100000 in
set_option maxHeartbeats 1000000 in
theorem sSumScale_any (xs : List (Int × ByteArray)) (n : Nat) (hnx : n = xs.length) (g cap : Nat) (m : Int) (w : World) (hn : n ≤ 1048576) (hz : ∀ j (h : j < xs.length), (xs[j]).2.size ≤ 1048576) (hl : TermL w g xs) :
    Calls Try.prog 25 #[.slice (some ⟨g, 0, none⟩) n cap, .int .i64 m] w (TermsPost (sclOf xs m) w) := by
  have HR := Lib.hid (l3Read_any xs n hnx g cap w hn hz hl)
  clear hnx hz hl
  go_enter Try.func25, Try.ntmps25
  go_wp2_with fail
  refine HR.out.mono ?_
  rintro e w1 ⟨hB, a, k, c, b, rfl, ⟨hno, rfl⟩ | ⟨ps, hyes, rfl, hk, hrd, ⟨ga, rfl⟩, hc1, hc2⟩⟩
  · have HN := Lib.hid (l3Read_none hno m).1
    clear hno
    go_wp2_with fail
    go_ret2
    exact ⟨hB.alloc hB.size _, .inl ⟨HN.out, _, _, rfl⟩⟩
  · obtain ⟨h60, htr, hnf⟩ := sum_trees hyes
    have HB := Lib.hid hB
    by_cases hin : -1000000 ≤ m ∧ m ≤ 1000000
    · have HIN : Hid (∀ w, Calls Try.prog 64 #[.int .i64 m, .int .i64 (-1000000), .int .i64 1000000] w fun e w' => e = .returned (.bool true) ∧ w = w') := Lib.hid (fun w => by
        have := l6In_any m (-1000000) 1000000 w
        rw [decide_eq_true hin] at this
        exact this)
      have HN : Hid (sclOf xs m = outOf (addAll [] (sclTm m ps))) := Lib.hid (by rw [sclOf, hyes]; simp only; rw [if_pos hin]; rfl)
      have HSM := Lib.hid (fun (W : World) (hb : Below w1.heap.size w1 W) (g0 : Nat) => l3Sum_any [] ps m 0 k rfl hk g0 0 (some ⟨ga, 0, none⟩) c W (Nat.le_refl _) (by omega) (by omega) (by omega) hin.1 hin.2 NF.nil (fun p hp => by simp at hp) (fun p hp => by have h := htr p hp; exact ⟨h.1, by omega, by omega, h.2.2.2.1, h.2.2.2.2⟩) Rd.nil (hrd.below (by decide) hb))
      have HTR : Hid (∀ p ∈ addAll [] (sclTm m ps), p.2.leaves ≤ 1000 ∧ p.2.nodes ≤ 1000) := Lib.hid (fun p hp => by
        obtain ⟨q, hq, e⟩ := mem_canon hp
        obtain ⟨r, hr, rfl⟩ := List.mem_map.1 hq
        have h := htr r hr
        rw [e]
        exact ⟨by show r.2.leaves ≤ 1000; omega, by show r.2.nodes ≤ 1000; omega⟩)
      have HCL := Lib.hid (show (addAll [] (sclTm m ps)).length ≤ 1000000 by have := canon_length (sclTm m ps); rw [sclTm_length] at this; exact Nat.le_trans this (by omega))
      clear hyes hrd htr hB hnf hin hk
      go_wp2_with (go_at_call 64; refine (HIN.out _).mono ?_; rintro e w' ⟨rfl, rfl⟩)
      refine (HSM.out _ ((Below.refl _ _).alloc (Nat.le_refl _) _) _).mono ?_
      rintro e w2 ⟨hB2, g2, c2, rfl, hq1, hq2, hr2⟩
      have HW := Lib.hid (l3Write_any (addAll [] (sclTm m ps)) _ rfl g2 c2 w2 HCL.out HTR.out hr2)
      have HB2 := Lib.hid (below_step (HB.out.alloc HB.out.size _) hB2)
      clear hB2 hr2
      go_wp2_with fail
      refine HW.out.mono ?_
      rintro e w3 ⟨hB3, hres⟩
      have HB3 := Lib.hid (below_step HB2.out hB3)
      rcases hres with ⟨hno, a3, c3, rfl⟩ | ⟨qs, g3, c3, cur, hyes, rfl, hg3, hcur, hcs, hl3⟩
      · have HQ : Hid (sclOf xs m = none) := Lib.hid (by rw [HN.out, hno])
        clear hno
        go_wp2_with fail
        go_ret2
        exact ⟨HB3.out, .inl ⟨HQ.out, _, _, rfl⟩⟩
      · have HQ : Hid (sclOf xs m = some qs) := Lib.hid (by rw [HN.out, hyes])
        have HRES : Hid (w2.heap.size ≤ g3 ∧ w3.heap[g3]? = some (.cells cur 32 (0, 0)) ∧ qs.length * 2 ≤ cur.size ∧ TermL w3 g3 (txtTm qs)) := Lib.hid ⟨hg3, hcur, hcs, hl3⟩
        clear hyes hcur hcs hl3
        go_wp2_with fail
        go_ret2
        obtain ⟨h1, h2, h3, h4⟩ := HRES.out
        exact ⟨HB3.out, .inr ⟨qs, g3, c3, cur, HQ.out, rfl, Nat.le_trans HB2.out.size h1, h2, h3, h4⟩⟩
    · have HIN : Hid (∀ w, Calls Try.prog 64 #[.int .i64 m, .int .i64 (-1000000), .int .i64 1000000] w fun e w' => e = .returned (.bool false) ∧ w = w') := Lib.hid (fun w => by
        have := l6In_any m (-1000000) 1000000 w
        rw [decide_eq_false hin] at this
        exact this)
      have HN : Hid (sclOf xs m = none) := Lib.hid (by rw [sclOf, hyes]; simp only; rw [if_neg hin])
      clear hyes hrd htr hB hnf hin
      go_wp2_with (go_at_call 64; refine (HIN.out _).mono ?_; rintro e w' ⟨rfl, rfl⟩)
      go_ret2
      exact ⟨HB.out.alloc HB.out.size _, .inl ⟨HN.out, _, _, rfl⟩⟩

set_option maxRecDepth 100000 in
set_option maxHeartbeats 4000000 in
theorem sSumMirror_any (xs : List (Int × ByteArray)) (n : Nat) (hnx : n = xs.length) (g cap : Nat) (w : World) (hn : n ≤ 1048576) (hz : ∀ j (h : j < xs.length), (xs[j]).2.size ≤ 1048576) (hl : TermL w g xs) :
    Calls Try.prog 35 #[.slice (some ⟨g, 0, none⟩) n cap] w (TermsPost (mirOf xs) w) := by
  have HR := Lib.hid (l3Read_any xs n hnx g cap w hn hz hl)
  clear hnx hz hl
  go_enter Try.func35, Try.ntmps35
  go_wp2_with fail
  refine HR.out.mono ?_
  rintro e w1 ⟨hB, a, k, c, b, rfl, ⟨hno, rfl⟩ | ⟨ps, hyes, rfl, hk, hrd, ⟨ga, rfl⟩, hc1, hc2⟩⟩
  · have HN := Lib.hid (l3Read_none hno 0).2
    clear hno
    go_wp2_with fail
    go_ret2
    exact ⟨hB.alloc hB.size _, .inl ⟨HN.out, _, _, rfl⟩⟩
  · obtain ⟨h60, htr, hnf⟩ := sum_trees hyes
    have HB := Lib.hid hB
    have HN : Hid (mirOf xs = outOf (addAll [] (mirTm ps))) := Lib.hid (by rw [mirOf, hyes]; rfl)
    have HK := Lib.hid hk
    have HTRE := Lib.hid htr
    have HRD := Lib.hid hrd
    have hk60 : k ≤ 60 := by omega
    clear hyes hrd htr hB hnf hk h60
    go_wp2_with fail
    go_loopw [6, 7] (fun ov iv wr => ∃ (i gq cq : Nat), i ≤ k ∧ iv = .int .i64 i ∧ ov = .slice (some ⟨gq, 0, none⟩) (addAll [] (mirTm (ps.take i))).length cq ∧ (addAll [] (mirTm (ps.take i))).length ≤ cq ∧ cq ≤ 9223372036854775807 ∧ Rd tmS wr (fun _ => True) (some ⟨gq, 0, none⟩) (addAll [] (mirTm (ps.take i))) ∧ Below w1.heap.size w1 wr) (fun _ iv _ => k - (intOf iv).toNat)
    case atStart => exact ⟨0, w1.heap.size, 0, Nat.zero_le _, rfl, rfl, Nat.le_refl _, by omega, Rd.nil, (Below.refl _ _).alloc (Nat.le_refl _) _⟩
    case round =>
      obtain ⟨i, gq, cq, hi, rfl, rfl, hq1, hq2, hrq, hB⟩ := hrel
      have HBr := Lib.hid hB
      have HRI := Lib.hid hrq
      clear hrq
      obtain ⟨K, hKK⟩ : ∃ K, K = addAll [] (mirTm (ps.take i)) := ⟨_, rfl⟩
      rw [← hKK] at HRI hq1
      rw [← hKK]
      have HKK := Lib.hid hKK
      have hok : ∀ p ∈ mirTm (ps.take i), p.2.wf ∧ p.2.leaves ≤ 12 ∧ p.2.nodes ≤ 16 := mirTm_ok (fun p hp => by
        have h := HTRE.out p (List.mem_of_mem_take hp)
        exact ⟨h.1, h.2.1, h.2.2.1⟩)
      have hnfK : NF K := by rw [hKK]; exact NF.canon (fun p hp => (hok p hp).1)
      have hKt : ∀ p ∈ K, p.2.leaves ≤ 1000 ∧ p.2.nodes ≤ 1000 ∧ -1000 ≤ p.1 ∧ p.1 ≤ 1000 := fun p hp => by
        have h1 := hnfK.2 p hp
        rw [hKK] at hp
        obtain ⟨q, hq, e⟩ := mem_canon hp
        have h := hok q hq
        rw [e]; exact ⟨by omega, by omega, by omega, by omega⟩
      have hKl : K.length ≤ i := by
        have := canon_length (mirTm (ps.take i))
        rw [mirTm_length, List.length_take] at this
        rw [hKK]; exact Nat.le_trans this (by omega)
      have HKT := Lib.hid hKt
      obtain ⟨N, hN⟩ : ∃ N, N = K.length := ⟨_, rfl⟩
      rw [← hN] at hq1 hKl
      rw [← hN]
      have HNL := Lib.hid hN
      clear hKK hok hnfK hKt hN
      by_cases hlt : i < k
      · have hltq : i < ps.length := by rw [← HK.out]; exact hlt
        obtain ⟨g', lb, sa, sn, sc, e', _, c0, c1, c2, hw, hrep⟩ := tmS.get (HRD.out.below (by decide) hB) i hltq
        simp only [Option.some.injEq, Addr.mk.injEq, and_true] at e'
        subst e'
        have hq := HTRE.out (ps[i]) (List.getElem_mem hltq)
        have HADD := Lib.hid (addAll_mir [] ps hltq)
        obtain ⟨t, ht⟩ : ∃ t, t = (ps[i]).2 := ⟨_, rfl⟩
        obtain ⟨x, hx⟩ : ∃ x, x = (ps[i]).1 := ⟨_, rfl⟩
        rw [← ht] at hw hrep hq HADD
        rw [← hx] at c0 hq HADD
        have hmw := mirror_wf t hw
        have hms := mirror_size t
        have HMI := Lib.hid (fun (W : World) (hb : Below wr.heap.size wr W) => l1Mirror_any _ t (.string lb) (.slice sa sn sc) W (fun _ => True) (Nat.le_refl _) hw (hrep.below hw hb))
        have HAD := Lib.hid (fun (W : World) (hb : Below wr.heap.size wr W) (lb' : ByteArray) (sa' : Option Addr) (sn' sc' : Nat) (hr' : RepS W (fun _ => True) t.mirror (.string lb') (.slice sa' sn' sc')) => l3Add_any K N HNL.out gq cq x t.mirror lb' sa' sn' sc' W hq1 hq2 (by omega) HKT.out hmw (by omega) (by omega) (by omega) (by omega) (HRI.out.below (by decide) hb) hr')
        clear ht hx hB hrep hq hw
        go_wp2_with fail
        go_region_with (first
          | (go_at_call 66; have hq := HC2.out; clear hq; refine (HAD.out _ HC2.out _ _ _ _ HRM.out).mono ?_; rintro e w3 ⟨hB3, g3, cp3, rfl, hq3, hq4, hr3⟩)
          | (go_at_call 79; refine (HMI.out _ (Below.refl _ _).drew).mono ?_; rintro e w2 ⟨hB2, lb', sa', sn', sc', rfl, hrm⟩; have hB2' : Below wr.heap.size wr w2 := (Below.refl _ _).drew.trans hB2; have HC2 := Lib.hid hB2'; have y0 := keep1 hB2' c0; have HRM := Lib.hid (hrm.keep (P' := fun _ => True) (fun _ _ _ h => h) (fun _ _ _ => trivial) hmw); clear hB2 hB2' hrm))
        all_goals
          have HR3 := Lib.hid hr3
          have HB3 := Lib.hid (below_step HBr.out (HC2.out.trans (hB3.mono HC2.out.size)))
          have hadd := HADD.out
          rw [← HKK.out] at hadd
          have HA := Lib.hid hadd
          clear hr3 hB3 hadd
          go_wp2_with fail
          go_roundw
          case rel => exact ⟨i + 1, g3, cp3, by omega, by go_num, by rw [HA.out], by rw [HA.out]; exact hq3, hq4, by rw [HA.out]; exact HR3.out, HB3.out⟩
          case measure => simp [intOf]; omega
      · have hin : i = k := by omega
        have HE : Hid (K = addAll [] (mirTm ps)) := Lib.hid (by rw [HKK.out, hin, HK.out, List.take_length])
        have HW := Lib.hid (fun (W : World) (hb : Below wr.heap.size wr W) => l3Write_any K N HNL.out gq cq W (by omega) (fun p hp => ⟨(HKT.out p hp).1, (HKT.out p hp).2.1⟩) (HRI.out.below (by decide) hb))
        have HBX := Lib.hid (below_step HB.out hB)
        clear hB
        go_wp2_with fail
        refine (HW.out _ (Below.refl _ _)).mono ?_
        rintro e w3 ⟨hB3, hres⟩
        have HB3 := Lib.hid (below_step HBX.out hB3)
        rcases hres with ⟨hno, a3, c3, rfl⟩ | ⟨qs, g3, c3, cur, hyes, rfl, hg3, hcur, hcs, hl3⟩
        · have HQ : Hid (mirOf xs = none) := Lib.hid (by rw [HN.out, ← HE.out, hno])
          clear hno
          go_wp2_with fail
          go_ret2
          exact ⟨HB3.out, .inl ⟨HQ.out, _, _, rfl⟩⟩
        · have HQ : Hid (mirOf xs = some qs) := Lib.hid (by rw [HN.out, ← HE.out, hyes])
          have HRES : Hid (wr.heap.size ≤ g3 ∧ w3.heap[g3]? = some (.cells cur 32 (0, 0)) ∧ qs.length * 2 ≤ cur.size ∧ TermL w3 g3 (txtTm qs)) := Lib.hid ⟨hg3, hcur, hcs, hl3⟩
          clear hyes hcur hcs hl3
          go_wp2_with fail
          go_ret2
          obtain ⟨h1, h2, h3, h4⟩ := HRES.out
          exact ⟨HB3.out, .inr ⟨qs, g3, c3, cur, HQ.out, rfl, Nat.le_trans HBX.out.size h1, h2, h3, h4⟩⟩
end Go.Proofs.Ytipodlckehodnaa
