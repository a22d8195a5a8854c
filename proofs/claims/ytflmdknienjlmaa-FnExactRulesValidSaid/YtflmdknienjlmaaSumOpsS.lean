/- The model: adding a multiple of a sum, mirroring a sum; SumScale, SumAdd, SumMirror. -/
import Derived.Test.YtflmdknienjlmaaKSumOfS
import Derived.Test.YtflmdknienjlmaaSumX
namespace Go.Proofs.Ytflmdknienjlmaa
open Go.RowKit

set_option maxRecDepth 100000 in
set_option maxHeartbeats 4000000 in
theorem l3Sum_any (ps qs : List Tm) (m : Int) (n k : Nat) (hnp : n = ps.length) (hkq : k = qs.length) (ga ca : Nat) (ab : Option Addr) (cb : Nat) (w : World) (hca : n ≤ ca) (hca2 : ca ≤ 9223372036854775807) (hn : n ≤ 1000) (hk : k ≤ 1000) (hm1 : -1000000 ≤ m) (hm2 : m ≤ 1000000)
    (hnf : NF ps) (hps : ∀ p ∈ ps, p.2.wf ∧ p.2.leaves ≤ 1000 ∧ p.2.nodes ≤ 1000) (hqs : ∀ p ∈ qs, p.2.wf ∧ p.2.leaves ≤ 1000 ∧ p.2.nodes ≤ 1000 ∧ 1 ≤ p.1 ∧ p.1 ≤ 100)
    (hr : Rd tmS w (fun _ => True) (some ⟨ga, 0, none⟩) ps) (hrq : Rd tmS w (fun _ => True) ab qs) :
    Calls Try.prog 50 #[.slice (some ⟨ga, 0, none⟩) n ca, .int .i64 m, .slice ab k cb] w (NewTms (addAll ps (sclTm m qs)) w) := by
  have HNP := Lib.hid hnp
  have HKQ := Lib.hid hkq
  have HNF := Lib.hid hnf
  have HPS := Lib.hid hps
  have HQS := Lib.hid hqs
  have HRR := Lib.hid hr
  have HRQ := Lib.hid hrq
  clear hnp hkq hnf hps hqs hr hrq
  go_enter Try.func50, Try.ntmps50
  go_wp2_with fail
  go_loopw [0, 7] (fun av iv wr => ∃ (i gq cq : Nat), i ≤ k ∧ iv = .int .i64 i ∧ av = .slice (some ⟨gq, 0, none⟩) (addAll ps (sclTm m (qs.take i))).length cq ∧ (addAll ps (sclTm m (qs.take i))).length ≤ cq ∧ cq ≤ 9223372036854775807 ∧ Rd tmS wr (fun _ => True) (some ⟨gq, 0, none⟩) (addAll ps (sclTm m (qs.take i))) ∧ Below w.heap.size w wr) (fun _ iv _ => k - (intOf iv).toNat)
  case atStart =>
    have e : addAll ps (sclTm m (qs.take 0)) = ps := by simp [sclTm, addAll_nil]
    exact ⟨0, ga, ca, Nat.zero_le _, rfl, by rw [e, ← HNP.out], by rw [e, ← HNP.out]; exact hca, hca2, by rw [e]; exact HRR.out, Below.refl _ _⟩
  case round =>
    obtain ⟨i, gq, cq, hi, rfl, rfl, hq1, hq2, hrq, hB⟩ := hrel
    have HB := Lib.hid hB
    have HRI := Lib.hid hrq
    clear hrq
    obtain ⟨K, hK⟩ : ∃ K, K = addAll ps (sclTm m (qs.take i)) := ⟨_, rfl⟩
    rw [← hK] at HRI hq1
    rw [← hK]
    have HK := Lib.hid hK
    have htk : ∀ p ∈ sclTm m (qs.take i), p.2.wf ∧ p.2.leaves ≤ 1000 ∧ p.2.nodes ≤ 1000 := fun p hp => by
      obtain ⟨q, hq, rfl⟩ := List.mem_map.1 hp
      have h := HQS.out q (List.mem_of_mem_take hq)
      exact ⟨h.1, h.2.1, h.2.2.1⟩
    have hKnf : NF K := by rw [hK]; exact NF.addAll HNF.out (fun p hp => (htk p hp).1)
    have hKl : K.length ≤ n + i := by
      have := addAll_length (sclTm m (qs.take i)) ps
      rw [sclTm_length, List.length_take, ← hK, ← HNP.out] at this
      omega
    have hKt : ∀ p ∈ K, p.2.leaves ≤ 1000 ∧ p.2.nodes ≤ 1000 ∧ -1000 ≤ p.1 ∧ p.1 ≤ 1000 := fun p hp => by
      have h1 := hKnf.2 p hp
      rw [hK] at hp
      rcases mem_addAll hp with ⟨q, hq, e⟩ | ⟨q, hq, e⟩
      · have h := HPS.out q hq; rw [e]; exact ⟨h.2.1, h.2.2, by omega, by omega⟩
      · have h := htk q hq; rw [e]; exact ⟨h.2.1, h.2.2, by omega, by omega⟩
    have HKT := Lib.hid hKt
    obtain ⟨N, hN⟩ : ∃ N, N = K.length := ⟨_, rfl⟩
    rw [← hN] at hq1 hKl
    rw [← hN]
    have HN := Lib.hid hN
    clear hK htk hKnf hKt hN
    by_cases hlt : i < k
    · have hltq : i < qs.length := by rw [← HKQ.out]; exact hlt
      obtain ⟨g', lb, sa, sn, sc, rfl, _, c0, c1, c2, hw, hrep⟩ := tmS.get (HRQ.out.below (by decide) hB) i hltq
      have hq := HQS.out (qs[i]) (List.getElem_mem hltq)
      have HADD := Lib.hid (addAll_scl ps qs m hltq)
      obtain ⟨t, ht⟩ : ∃ t, t = (qs[i]).2 := ⟨_, rfl⟩
      obtain ⟨x, hx⟩ : ∃ x, x = (qs[i]).1 := ⟨_, rfl⟩
      rw [← ht] at hw hrep hq HADD
      rw [← hx] at c0 hq HADD
      have hmx : -100000000 ≤ m * x ∧ m * x ≤ 100000000 := by
        have h1 := Int.mul_le_mul_of_nonneg_right hm2 (show 0 ≤ x by omega)
        have h2 := Int.mul_le_mul_of_nonneg_right hm1 (show 0 ≤ x by omega)
        constructor <;> omega
      have hwr : IntKind.i64.wrap (m * x) = m * x := by rw [IntKind.wrap_i64]; omega
      have HAD := Lib.hid (fun (W : World) (hb : Below wr.heap.size wr W) => l3Add_any K N HN.out gq cq (m * x) t lb sa sn sc W hq1 hq2 (by omega) HKT.out hw (by omega) (by omega) (by omega) (by omega) (HRI.out.below (by decide) hb) (hrep.below hw hb))
      have k0 : (0 : Int) ≤ (i : Int) := by omega
      clear ht hx hB hrep hq hw
      go_wp2_with fail
      go_region_with (go_at_call 91; refine (HAD.out _ (Below.refl _ _).drew).mono ?_; rintro e w3 ⟨hB3, g3, cp3, rfl, hq3, hq4, hr3⟩)
      all_goals
        have HR3 := Lib.hid hr3
        have HB3 := Lib.hid (below_step HB.out ((Below.refl _ _).drew.trans hB3))
        have hadd := HADD.out
        rw [← HK.out] at hadd
        have HA := Lib.hid hadd
        clear hr3 hB3 hadd
        go_wp2_with fail
        go_roundw
        case rel => exact ⟨i + 1, g3, cp3, by omega, by go_num, by rw [HA.out], by rw [HA.out]; exact hq3, hq4, by rw [HA.out]; exact HR3.out, HB3.out⟩
        case measure => simp [intOf]; omega
    · have hin : i = k := by omega
      have HE : Hid (addAll ps (sclTm m qs) = K) := Lib.hid (by rw [HK.out, hin, HKQ.out, List.take_length])
      clear hB
      go_wp2_with fail
      go_ret
      exact ⟨HB.out, gq, cq, by rw [HE.out, ← HN.out]; rfl, by rw [HE.out, ← HN.out]; exact hq1, hq2, by rw [HE.out]; exact HRI.out⟩

theorem l3Read_none {xs : List (Int × ByteArray)} (h : sumOf xs = none) (m : Int) : sclOf xs m = none ∧ mirOf xs = none := ⟨by rw [sclOf, h], by rw [mirOf, h]⟩

end Go.Proofs.Ytflmdknienjlmaa
