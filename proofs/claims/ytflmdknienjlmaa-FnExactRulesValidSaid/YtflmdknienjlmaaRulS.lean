/- The model reads rules. -/
import Derived.Test.YtflmdknienjlmaaSumOpsS
import Derived.Test.YtflmdknienjlmaaRulM
import Derived.Test.YtflmdknienjlmaaReadN
import Derived.Test.YtflmdknienjlmaaTermSS
namespace Go.Proofs.Ytflmdknienjlmaa
open Go.RowKit

/-- A slice that begins somewhere in a row reads us these elements. -/
def RdO {α : Type} (E : Elt α) (w : World) (P : Nat → Prop) (a : Option Addr) (us : List α) : Prop :=
  ∀ k (h : k < us.length), ∃ g off cs, a = some ⟨g, off, none⟩ ∧ P g ∧ (∀ j, j < E.size → w.cell? ⟨g, off + k * E.size + j, none⟩ = cs[j]?) ∧ E.R w P us[k] cs

theorem RdO.nil {α : Type} {E : Elt α} {w : World} {P : Nat → Prop} {a : Option Addr} : RdO E w P a [] := fun _ h => by simp at h

theorem RdO.keep {α : Type} {E : Elt α} {w w' : World} {P P' : Nat → Prop} {a : Option Addr} {us : List α} (h0 : 0 < E.size) (hk : Keeps P w w') (hp : ∀ g, P g → g < w.heap.size → P' g) (h : RdO E w P a us) : RdO E w' P' a us := fun k hlt => by
  obtain ⟨g, off, cs, e, hg, hc, hr⟩ := h k hlt
  have hl := E.len hr
  have hgl : g < w.heap.size := by
    have := hc 0 h0
    rw [List.getElem?_eq_getElem (by omega)] at this
    exact World.block_lt_of_cell? w _ this
  refine ⟨g, off, cs, e, hp g hg hgl, fun j hj => ?_, E.keep hk hp hr⟩
  have h1 := hc j hj
  rw [List.getElem?_eq_getElem (by omega)] at h1 ⊢
  exact hk _ _ hg h1

theorem RdO.below {α : Type} {E : Elt α} {w w' : World} {P : Nat → Prop} {a : Option Addr} {us : List α} (h0 : 0 < E.size) (h : RdO E w P a us) (hb : Below w.heap.size w w') : RdO E w' P a us :=
  h.keep h0 (Keeps.of_below hb P) (fun _ h _ => h)

/-- What stands behind the first element. -/
theorem RdO.tail {α : Type} {E : Elt α} {w : World} {P : Nat → Prop} {g : Nat} {u : α} {us : List α} (h : Rd E w P (some ⟨g, 0, none⟩) (u :: us)) : RdO E w P (some ⟨g, E.size, none⟩) us := fun k hk => by
  obtain ⟨g', cs, e, hg, hc, hr⟩ := h (k + 1) (by simp; omega)
  cases e
  refine ⟨g, E.size, cs, rfl, hg, fun j hj => ?_, by simpa using hr⟩
  have := hc j hj
  rw [show (k + 1) * E.size + j = E.size + k * E.size + j by rw [Nat.add_mul]; omega] at this
  exact this

theorem tmS.getO {w : World} {P : Nat → Prop} {a : Option Addr} {ps : List Tm} (h : RdO tmS w P a ps) (k : Nat) (hk : k < ps.length) :
    ∃ g off lb sa sn sc, a = some ⟨g, off, none⟩ ∧ P g ∧ w.cell? ⟨g, off + k * 3, none⟩ = some (.int .i64 (ps[k]).1) ∧ w.cell? ⟨g, off + k * 3 + 1, none⟩ = some (.string lb) ∧ w.cell? ⟨g, off + k * 3 + 2, none⟩ = some (.slice sa sn sc) ∧ (ps[k]).2.wf ∧ RepS w P (ps[k]).2 (.string lb) (.slice sa sn sc) := by
  obtain ⟨g, off, cs, e, hg, hc, lb, sa, sn, sc, rfl, hw, hr⟩ := h k hk
  exact ⟨g, off, lb, sa, sn, sc, e, hg, hc 0 (by decide), hc 1 (by decide), hc 2 (by decide), hw, hr⟩

set_option maxRecDepth 100000 in
set_option maxHeartbeats 4000000 in
theorem l3SumO_any (ps qs : List Tm) (m : Int) (n k : Nat) (hnp : n = ps.length) (hkq : k = qs.length) (ga ca : Nat) (ab : Option Addr) (cb : Nat) (w : World) (hca : n ≤ ca) (hca2 : ca ≤ 9223372036854775807) (hn : n ≤ 1000) (hk : k ≤ 1000) (hm1 : -1000000 ≤ m) (hm2 : m ≤ 1000000)
    (hnf : NF ps) (hps : ∀ p ∈ ps, p.2.wf ∧ p.2.leaves ≤ 1000 ∧ p.2.nodes ≤ 1000) (hqs : ∀ p ∈ qs, p.2.wf ∧ p.2.leaves ≤ 1000 ∧ p.2.nodes ≤ 1000 ∧ 1 ≤ p.1 ∧ p.1 ≤ 100)
    (hr : Rd tmS w (fun _ => True) (some ⟨ga, 0, none⟩) ps) (hrq : RdO tmS w (fun _ => True) ab qs) :
    Calls Try.prog 50 #[.slice (some ⟨ga, 0, none⟩) n ca, .int .i64 m, .slice ab k cb] w (NewTms (addAll ps (sclTm m qs)) w) := by
  have HNP := Lib.hid hnp
  have HKQ := Lib.hid hkq
  have HNF := Lib.hid hnf
  have HPS := Lib.hid hps
  have HQS := Lib.hid hqs
  have HRR := Lib.hid hr
  have HRQ := Lib.hid hrq
  clear hnp hkq hnf hps hqs hr hrq
  go_enter Try.func50, Try.ntmps50
  go_wp2_with fail
  go_loopw [0, 7] (fun av iv wr => ∃ (i gq cq : Nat), i ≤ k ∧ iv = .int .i64 i ∧ av = .slice (some ⟨gq, 0, none⟩) (addAll ps (sclTm m (qs.take i))).length cq ∧ (addAll ps (sclTm m (qs.take i))).length ≤ cq ∧ cq ≤ 9223372036854775807 ∧ Rd tmS wr (fun _ => True) (some ⟨gq, 0, none⟩) (addAll ps (sclTm m (qs.take i))) ∧ Below w.heap.size w wr) (fun _ iv _ => k - (intOf iv).toNat)
  case atStart =>
    have e : addAll ps (sclTm m (qs.take 0)) = ps := by simp [sclTm, addAll_nil]
    exact ⟨0, ga, ca, Nat.zero_le _, rfl, by rw [e, ← HNP.out], by rw [e, ← HNP.out]; exact hca, hca2, by rw [e]; exact HRR.out, Below.refl _ _⟩
  case round =>
    obtain ⟨i, gq, cq, hi, rfl, rfl, hq1, hq2, hrq, hB⟩ := hrel
    have HB := Lib.hid hB
    have HRI := Lib.hid hrq
    clear hrq
    obtain ⟨K, hK⟩ : ∃ K, K = addAll ps (sclTm m (qs.take i)) := ⟨_, rfl⟩
    rw [← hK] at HRI hq1
    rw [← hK]
    have HK := Lib.hid hK
    have htk : ∀ p ∈ sclTm m (qs.take i), p.2.wf ∧ p.2.leaves ≤ 1000 ∧ p.2.nodes ≤ 1000 := fun p hp => by
      obtain ⟨q, hq, rfl⟩ := List.mem_map.1 hp
      have h := HQS.out q (List.mem_of_mem_take hq)
      exact ⟨h.1, h.2.1, h.2.2.1⟩
    have hKnf : NF K := by rw [hK]; exact NF.addAll HNF.out (fun p hp => (htk p hp).1)
    have hKl : K.length ≤ n + i := by
      have := addAll_length (sclTm m (qs.take i)) ps
      rw [sclTm_length, List.length_take, ← hK, ← HNP.out] at this
      omega
    have hKt : ∀ p ∈ K, p.2.leaves ≤ 1000 ∧ p.2.nodes ≤ 1000 ∧ -1000 ≤ p.1 ∧ p.1 ≤ 1000 := fun p hp => by
      have h1 := hKnf.2 p hp
      rw [hK] at hp
      rcases mem_addAll hp with ⟨q, hq, e⟩ | ⟨q, hq, e⟩
      · have h := HPS.out q hq; rw [e]; exact ⟨h.2.1, h.2.2, by omega, by omega⟩
      · have h := htk q hq; rw [e]; exact ⟨h.2.1, h.2.2, by omega, by omega⟩
    have HKT := Lib.hid hKt
    obtain ⟨N, hN⟩ : ∃ N, N = K.length := ⟨_, rfl⟩
    rw [← hN] at hq1 hKl
    rw [← hN]
    have HN := Lib.hid hN
    clear hK htk hKnf hKt hN
    by_cases hlt : i < k
    · have hltq : i < qs.length := by rw [← HKQ.out]; exact hlt
      obtain ⟨g', off, lb, sa, sn, sc, rfl, _, c0, c1, c2, hw, hrep⟩ := tmS.getO (HRQ.out.below (by decide) hB) i hltq
      have hq := HQS.out (qs[i]) (List.getElem_mem hltq)
      have HADD := Lib.hid (addAll_scl ps qs m hltq)
      obtain ⟨t, ht⟩ : ∃ t, t = (qs[i]).2 := ⟨_, rfl⟩
      obtain ⟨x, hx⟩ : ∃ x, x = (qs[i]).1 := ⟨_, rfl⟩
      rw [← ht] at hw hrep hq HADD
      rw [← hx] at c0 hq HADD
      have hmx : -100000000 ≤ m * x ∧ m * x ≤ 100000000 := by
        have h1 := Int.mul_le_mul_of_nonneg_right hm2 (show 0 ≤ x by omega)
        have h2 := Int.mul_le_mul_of_nonneg_right hm1 (show 0 ≤ x by omega)
        constructor <;> omega
      have hwr : IntKind.i64.wrap (m * x) = m * x := by rw [IntKind.wrap_i64]; omega
      have HAD := Lib.hid (fun (W : World) (hb : Below wr.heap.size wr W) => l3Add_any K N HN.out gq cq (m * x) t lb sa sn sc W hq1 hq2 (by omega) HKT.out hw (by omega) (by omega) (by omega) (by omega) (HRI.out.below (by decide) hb) (hrep.below hw hb))
      have k0 : (0 : Int) ≤ (i : Int) := by omega
      clear ht hx hB hrep hq hw
      go_wp2_with fail
      go_region_with (go_at_call 91; refine (HAD.out _ (Below.refl _ _).drew).mono ?_; rintro e w3 ⟨hB3, g3, cp3, rfl, hq3, hq4, hr3⟩)
      all_goals
        have HR3 := Lib.hid hr3
        have HB3 := Lib.hid (below_step HB.out ((Below.refl _ _).drew.trans hB3))
        have hadd := HADD.out
        rw [← HK.out] at hadd
        have HA := Lib.hid hadd
        clear hr3 hB3 hadd
        go_wp2_with fail
        go_roundw
        case rel => exact ⟨i + 1, g3, cp3, by omega, by go_num, by rw [HA.out], by rw [HA.out]; exact hq3, hq4, by rw [HA.out]; exact HR3.out, HB3.out⟩
        case measure => simp [intOf]; omega
    · have hin : i = k := by omega
      have HE : Hid (addAll ps (sclTm m qs) = K) := Lib.hid (by rw [HK.out, hin, HKQ.out, List.take_length])
      clear hB
      go_wp2_with fail
      go_ret
      exact ⟨HB.out, gq, cq, by rw [HE.out, ← HN.out]; rfl, by rw [HE.out, ← HN.out]; exact hq1, hq2, by rw [HE.out]; exact HRI.out⟩


theorem turned_facts {c k x : Nat} (hc : c ≤ 100) (hk : k ≤ 101) (hx : x = c * k % 101) : IntKind.i64.wrap ((c : Int) * (k : Int)) = (c : Int) * (k : Int) ∧ ((c : Int) * (k : Int)).tmod 101 = (x : Int) ∧ ((c : Int) * (k : Int)) % 101 = (x : Int) := by
  have h1 : c * k ≤ 100 * 101 := Nat.mul_le_mul hc hk
  have e : (c : Int) * (k : Int) = ((c * k : Nat) : Int) := by simp
  rw [e]
  refine ⟨by rw [IntKind.wrap_i64]; omega, ?_, by rw [hx]; omega⟩
  rw [Int.tmod_eq_emod_of_nonneg (by omega), hx]; omega

set_option maxRecDepth 100000 in
set_option maxHeartbeats 1000000 in
theorem l5Turned_any (c : Nat) (w : World) (h0 : 1 ≤ c) (h1 : c ≤ 100) :
    Calls Try.prog 107 #[.int .i64 c] w (Ans (.int .i64 (inv101 c)) w) := by
  go_enter Try.func107, Try.ntmps107
  go_wp2_with fail
  go_loopw [3] (fun i wr => ∃ k : Nat, 1 ≤ k ∧ k ≤ 101 ∧ i = .int .i64 k ∧ w = wr ∧ ∀ j, 1 ≤ j → j < k → c * j % 101 ≠ 1) (fun i _ => 101 - (intOf i).toNat)
  case atStart => exact ⟨1, by omega, by omega, rfl, rfl, fun j h1 h2 => by omega⟩
  case round =>
    obtain ⟨k, hk1, hk2, rfl, rfl, hj⟩ := hrel
    by_cases hlt : k < 101
    · obtain ⟨x, hx⟩ : ∃ x, x = c * k % 101 := ⟨_, rfl⟩
      obtain ⟨f1, f2, f3⟩ := turned_facts h1 (show k ≤ 101 by omega) hx
      have HX := Lib.hid hx
      have HJ := Lib.hid hj
      have e0 : decide ((k : Int) < 101) = true := decide_eq_true (by omega)
      clear hx hj
      by_cases hx1 : x = 1
      · have e1 : ((x : Int) == 1) = true := by simp [hx1]
        have HI : Hid (k = inv101 c) := Lib.hid (inv101_only c (by omega) k (by omega) (by rw [← HX.out, hx1]))
        clear hx1
        go_wp2_with fail
        go_ret
        exact ⟨by first | rfl | (rw [HI.out]; rfl), Below.refl _ _⟩
      · have e1 : ((x : Int) == 1) = false := by simp; omega
        clear hx1
        go_wp2_with fail
        go_roundw
        case rel => exact ⟨k + 1, by omega, by omega, by go_num, trivial, fun j h2 h3 => by
            by_cases e : j = k
            · subst e
              rw [← HX.out]
              intro h; rw [h] at e1; simp at e1
            · exact HJ.out j h2 (by omega)⟩
        case measure => simp [intOf]; omega
    · have h5 := inv101_lt c
      have h6 := inv101_pos (show c < 101 by omega) (show 0 < c by omega)
      exact absurd (inv101_mul c (by omega) (by omega)) (hj (inv101 c) (by omega) (by omega))

/-- What the model answers that reads rules. -/
def L5R (xss : List (List (Int × ByteArray))) (w : World) (e : Ending) (w' : World) : Prop :=
  Below w.heap.size w w' ∧ ∃ a n c, e = .returned (.tuple #[.slice a n c, .bool (rulesOf xss).isSome])

theorem infoRlS : (Try.prog.info? 190).map (fun i => (i.zero, i.size, i.bytes)) = some (some (.agg #[.string ⟨#[]⟩, .slice none 0 0, .slice none 0 0]), 3, 64) := by kernel_rfl

theorem rulesOf_bad {xss : List (List (Int × ByteArray))} (h : rlAll xss = none) : (rulesOf xss).isSome = false := by
  unfold rulesOf; split
  · rfl
  · rw [h]; rfl

set_option maxRecDepth 100000 in
set_option maxHeartbeats 1000000 in
theorem l5Rules_any (xss : List (List (Int × ByteArray))) (n : Nat) (hnx : n = xss.length) (g cap : Nat) (w : World) (hn : n ≤ 1048576) (hz : ∀ j (h : j < xss.length), Small1 xss[j]) (hl : TermsL w g xss) :
    Calls Try.prog 66 #[.slice (some ⟨g, 0, none⟩) n cap] w (L5R xss w) := by
  have HL := Lib.hid hl
  have HZ := Lib.hid hz
  have HNN := Lib.hid hnx
  clear hl hz hnx
  obtain ⟨i0, hi0, hzz, hzs, hzb⟩ := info_parts infoRlS
  go_enter Try.func66, Try.ntmps66
  go_wp2_with fail
  go_loopw [4, 5] (fun ov iv wr => ∃ (rs : List Rl) (k : Nat) (va : Option Addr) (vc : Nat) (vs : List Value), k = rs.length ∧ k ≤ n ∧ va ≠ none ∧ iv = .int .i64 k ∧ ov = .slice va k vc ∧ rlAll (xss.take k) = some rs ∧ wr.ownsRow w.heap.size 190 3 (.slice va k vc) k vs ∧ Below w.heap.size w wr) (fun _ iv _ => n - (intOf iv).toNat)
  case atStart =>
    refine ⟨[], 0, some ⟨w.heap.size, 0, none⟩, 0, [], rfl, Nat.zero_le _, by simp, rfl, rfl, rfl, ?_, (Below.refl _ _).alloc (Nat.le_refl _) _⟩
    exact World.ownsRow_made w #[] 0 (Nat.le_refl _) (by simp [maxLen]) rfl
  case round =>
    obtain ⟨rs, k, va, vc, vs, hkp, hk, hva, rfl, rfl, hrd, hrow, hB⟩ := hrel
    have HKP := Lib.hid hkp
    have HVA := Lib.hid hva
    have HRD := Lib.hid hrd
    have HROW := Lib.hid hrow
    have HB := Lib.hid hB
    have hszr : w.heap.size ≤ wr.heap.size := hB.size
    by_cases hlt : k < n
    · have hltx : k < xss.length := by rw [← HNN.out]; exact hlt
      obtain ⟨g1, c1, c0, htl⟩ := (HL.out.below hB) k hltx
      have hsm := HZ.out k hltx
      obtain ⟨m, hm⟩ : ∃ m, m = (xss[k]).length := ⟨_, rfl⟩
      rw [← hm] at c0
      have HP := Lib.hid (l3ReadN_any (xss[k]) m hm g1 c1 wr (by rw [hm]; exact hsm.1) hsm.2 htl)
      clear hkp hva hrd hrow hB hm hsm htl
      go_wp2_with fail
      refine HP.out.mono ?_
      rintro e w1 ⟨hB1, a1, n1, cc1, b1, rfl, ⟨hno, rfl⟩ | ⟨ps, hyes, rfl, hn1, hrdp, ⟨g2, rfl, hg2⟩, hc1, hc2⟩⟩
      · have HN : Hid ((rulesOf xss).isSome = false) := Lib.hid (rulesOf_bad (rl_bad hltx (ruleOf_no hno)))
        have HBB := Lib.hid (below_step HB.out hB1)
        clear hno hB1
        go_wp2_with fail
        go_ret2
        exact ⟨HBB.out, _, _, _, by rw [HN.out]; rfl⟩
      · have HB1 := Lib.hid hB1
        have HYES := Lib.hid hyes
        have HRDP := Lib.hid hrdp
        have HOWN := Lib.hid (owns_below HROW.out hB1)
        cases ps with
        | nil =>
          have HN : Hid ((rulesOf xss).isSome = false) := Lib.hid (rulesOf_bad (rl_bad hltx (ruleOf_zero hyes)))
          have HBB := Lib.hid (below_step HB.out hB1)
          simp only [List.length_nil] at hn1
          subst hn1
          clear hyes hB1 hrdp
          go_wp2_with fail
          go_ret2
          exact ⟨HBB.out, _, _, _, by rw [HN.out]; rfl⟩
        | cons p ps' =>
          obtain ⟨g', lb, sa, sn, sc, eg, _, d0, d1, d2, hwf, hrep⟩ := tmS.get hrdp 0 (by simp)
          cases eg
          simp only [List.getElem_cons_zero, Nat.zero_mul, Nat.zero_add] at d0 d1 d2 hwf hrep
          obtain ⟨k', hk'⟩ : ∃ k', k' = ps'.length := ⟨_, rfl⟩
          have hn1' : n1 = k' + 1 := by rw [hn1, hk']; rfl
          subst hn1'
          have HK' := Lib.hid hk'
          have hcf := (sum_trees hyes).2.1 p (by simp)
          have hcfs := (sum_trees hyes).2.1
          have hk60 := (sum_trees hyes).1
          obtain ⟨x, hx⟩ : ∃ x : Nat, (x : Int) = p.1 := ⟨p.1.toNat, by omega⟩
          rw [← hx] at d0
          have hx1 : 1 ≤ x ∧ x ≤ 100 := by omega
          have hk60' : k' ≤ 60 := by rw [hk']; simp at hk60; omega
          have HCFS := Lib.hid hcfs
          have z1 : (((k' + 1 : Nat) : Int) == 0) = false := beq_false_of_ne (by omega)
          have z2 : decide ((0 : Int) < ((k' + 1 : Nat) : Int)) = true := decide_eq_true (by omega)
          have HBB1 := Lib.hid (below_step HB.out hB1)
          cases hp : p.2 with
          | leaf =>
            have HN : Hid ((rulesOf xss).isSome = false) := Lib.hid (rulesOf_bad (rl_bad hltx (ruleOf_leaf hyes hp)))
            rw [hp, RepS] at hrep
            obtain ⟨e1, e2⟩ := hrep
            cases e1
            cases e2
            clear hyes hB1 hrdp hn1 hk' hcf hcfs hk60 hx hp
            go_wp2_with fail
            go_ret2
            exact ⟨HBB1.out, _, _, _, by rw [HN.out]; rfl⟩
          | node ch ks =>
            have HTK : Hid (rlAll (xss.take (k + 1)) = some (rs ++ [(p, ps')])) := Lib.hid (rl_good hltx HRD.out (ruleOf_yes hyes hp))
            have hlb := hrep
            rw [hp, RepS] at hlb
            obtain ⟨e1, _⟩ := hlb
            cases e1
            have HT := Lib.hid (fun W => l5Turned_any x W hx1.1 hx1.2)
            have hi1 := inv101_lt x
            obtain ⟨iv, hiv⟩ : ∃ iv, iv = inv101 x := ⟨_, rfl⟩
            rw [← hiv] at HT hi1
            have hw1 : IntKind.i64.wrap (-(iv : Int)) = -(iv : Int) := by rw [IntKind.wrap_i64]; omega
            have hk1 : (1 : Int) ≤ (k' : Int) + 1 := by omega
            have hw2 : IntKind.i64.wrap (0 - (iv : Int)) = -(iv : Int) := by rw [IntKind.wrap_i64]; omega
            clear hyes hB1 hrdp hn1 hk' hcf hcfs hk60 hx hp hiv hrep hwf
            go_wp2_with fail
            refine (HT.out _).mono ?_
            rintro e w2 ⟨rfl, hB2⟩
            have HW2 := Lib.hid hB2
            have d1 := keep1 hB2 d1
            have d2 := keep1 hB2 d2
            have HA5 : Hid (Below w2.heap.size w2 (w2.drew.alloc (.cells #[] 78 (0, 0)))) := Lib.hid ((Below.refl _ _).drew.alloc (by simp) _)
            have hRT := (RdO.tail (HRDP.out.weak (P' := fun _ => True) (by decide) (fun _ _ _ => trivial))).below (by decide) (hB2.trans (HA5.out.mono hB2.size))
            have HSM := Lib.hid (l3SumO_any [] ps' (-(iv : Int)) 0 k' rfl HK'.out w2.heap.size 0 (some ⟨g2, 3, none⟩) (cc1 - 1) (w2.drew.alloc (.cells #[] 78 (0, 0))) (Nat.le_refl _) (by omega) (by omega) (by omega) (by omega) (by omega) NF.nil (fun _ h => by simp at h) (fun q hq => by have h := HCFS.out q (by simp [hq]); exact ⟨h.1, by omega, by omega, h.2.2.2.1, h.2.2.2.2⟩) Rd.nil hRT)
            have HSM1 : ∀ (hps : ps' = []), Hid _ := fun hps => Lib.hid (l3SumO_any [] ps' (-(iv : Int)) 0 k' rfl HK'.out w2.heap.size 0 (some ⟨g2, 0, none⟩) 0 (w2.drew.alloc (.cells #[] 78 (0, 0))) (Nat.le_refl _) (by omega) (by omega) (by omega) (by omega) (by omega) NF.nil (fun _ h => by simp at h) (fun q hq => by have h := HCFS.out q (by simp [hq]); exact ⟨h.1, by omega, by omega, h.2.2.2.1, h.2.2.2.2⟩) Rd.nil (by subst hps; exact RdO.nil))
            clear hB2 hRT
            by_cases hcc : cc1 = 1
            · have hk0 : k' = 0 := by omega
              subst hcc
              subst hk0
              have HSM := HSM1 (List.length_eq_zero_iff.1 HK'.out.symm)
              go_wp2_with fail
              refine wp_region_held_drew (S := (fun w' => w'.cell? ⟨g2, 1, none⟩ = some (.string ⟨#[ch]⟩) ∧ w'.cell? ⟨g2, 2, none⟩ = some (.slice sa sn sc))) (by kernel_rfl) (by exact ⟨d1, d2⟩) (fun hHeld => ?_)
              refine wpAnyH_take (i := 0) (oi := { dst := some 45, op := Op.move (Operand.tmp 4), type := 109, pos := "l5_rewriting.go:30", after := #[], guard := none }) (v := ?_) rfl (by kernel_rfl) (by kernel_rfl) (by kernel_rfl) (fun _ _ _ h => h) (Or.inl ⟨by rfl, ?_⟩) (by assumption) ?_
              rotate_left
              · (intro w hSw; (try dsimp only at hSw); go_simp <;> with_reducible rfl)
              (try simp only [Act.put, List.setIfInBounds_toArray, List.set_cons_zero, List.set_cons_succ])
              refine wpAnyH_take (i := 1) (oi := { dst := some 46, op := Op.move (Operand.tmp 6), type := 70, pos := "l5_rewriting.go:30", after := #[], guard := none }) (v := ?_) rfl (by kernel_rfl) (by kernel_rfl) (by kernel_rfl) (fun _ _ _ h => h) (Or.inl ⟨by rfl, ?_⟩) (by assumption) ?_
              rotate_left
              · (intro w hSw; (try dsimp only at hSw); go_simp <;> with_reducible rfl)
              (try simp only [Act.put, List.setIfInBounds_toArray, List.set_cons_zero, List.set_cons_succ])
              refine wpAnyH_take (i := 2) (oi := { dst := some 47, op := Op.indexAddr 70 (Operand.tmp 46) (Operand.const (Value.int IntKind.i64 0)), type := 0, pos := "l5_rewriting.go:30", after := #[{ on := 1, ground := Ground.data }], guard := none }) (v := ?_) rfl (by kernel_rfl) (by kernel_rfl) (by kernel_rfl) (fun _ _ _ h => h) (Or.inl ⟨by rfl, ?_⟩) (by assumption) ?_
              rotate_left
              · (intro w hSw; (try dsimp only at hSw); go_simp <;> with_reducible rfl)
              (try simp only [Act.put, List.setIfInBounds_toArray, List.set_cons_zero, List.set_cons_succ])
              refine wpAnyH_take (i := 3) (oi := { dst := some 48, op := Op.fieldAddr 78 (Operand.tmp 47) 1, type := 0, pos := "l5_rewriting.go:30", after := #[{ on := 2, ground := Ground.data }], guard := none }) (v := ?_) rfl (by kernel_rfl) (by kernel_rfl) (by kernel_rfl) (fun _ _ _ h => h) (Or.inl ⟨by rfl, ?_⟩) (by assumption) ?_
              rotate_left
              · (intro w hSw; (try dsimp only at hSw); go_simp <;> with_reducible rfl)
              (try simp only [Act.put, List.setIfInBounds_toArray, List.set_cons_zero, List.set_cons_succ])
              refine wpAnyH_take (i := 4) (oi := { dst := some 49, op := Op.load 76 (Operand.tmp 48), type := 76, pos := "l5_rewriting.go:30", after := #[{ on := 3, ground := Ground.data }], guard := none }) (v := ?_) rfl (by kernel_rfl) (by kernel_rfl) (by kernel_rfl) (fun _ _ _ h => h) (Or.inl ⟨by rfl, ?_⟩) (by assumption) ?_
              rotate_left
              · (intro w hSw; (try dsimp only at hSw); go_simp <;> with_reducible rfl)
              (try simp only [Act.put, List.setIfInBounds_toArray, List.set_cons_zero, List.set_cons_succ])
              refine wpAnyH_take (i := 6) (oi := { dst := some 51, op := Op.move (Operand.tmp 8), type := 3, pos := "l5_rewriting.go:30", after := #[], guard := none }) (v := ?_) rfl (by kernel_rfl) (by kernel_rfl) (by kernel_rfl) (fun _ _ _ h => h) (Or.inl ⟨by rfl, ?_⟩) (by assumption) ?_
              rotate_left
              · (intro w hSw; (try dsimp only at hSw); go_simp <;> with_reducible rfl)
              (try simp only [Act.put, List.setIfInBounds_toArray, List.set_cons_zero, List.set_cons_succ])
              refine wpAnyH_take (i := 7) (oi := { dst := some 52, op := Op.binOp BinOp.sub 3 (Operand.const (Value.int IntKind.i64 0)) (Operand.tmp 51) 3, type := 3, pos := "l5_rewriting.go:30", after := #[{ on := 6, ground := Ground.data }], guard := none }) (v := ?_) rfl (by kernel_rfl) (by kernel_rfl) (by kernel_rfl) (fun _ _ _ h => h) (Or.inl ⟨by rfl, ?_⟩) (by assumption) ?_
              rotate_left
              · (intro w hSw; (try dsimp only at hSw); go_simp <;> with_reducible rfl)
              (try simp only [Act.put, List.setIfInBounds_toArray, List.set_cons_zero, List.set_cons_succ])
              refine wpAnyH_take (i := 8) (oi := { dst := some 53, op := Op.move (Operand.tmp 6), type := 70, pos := "l5_rewriting.go:30", after := #[], guard := none }) (v := ?_) rfl (by kernel_rfl) (by kernel_rfl) (by kernel_rfl) (fun _ _ _ h => h) (Or.inl ⟨by rfl, ?_⟩) (by assumption) ?_
              rotate_left
              · (intro w hSw; (try dsimp only at hSw); go_simp <;> with_reducible rfl)
              (try simp only [Act.put, List.setIfInBounds_toArray, List.set_cons_zero, List.set_cons_succ])
              refine wpAnyH_take (i := 9) (oi := { dst := some 54, op := Op.slice 70 (Operand.tmp 53) (some (Operand.const (Value.int IntKind.i64 1))) none none, type := 70, pos := "l5_rewriting.go:30", after := #[{ on := 8, ground := Ground.data }], guard := none }) (v := ?_) rfl (by kernel_rfl) (by kernel_rfl) (by kernel_rfl) (fun _ _ _ h => h) (Or.inl ⟨by rfl, ?_⟩) (by assumption) ?_
              rotate_left
              · (intro w hSw; (try dsimp only at hSw); go_simp <;> with_reducible rfl)
              (try simp only [Act.put, List.setIfInBounds_toArray, List.set_cons_zero, List.set_cons_succ])
              refine wpAnyH_ready (rs := [5]) (by kernel_rfl) (by simp) ?_
              refine AllReadyH.cons (o := { dst := some 50, op := Op.buildSlice 70 0 #[], type := 70, pos := "l5_rewriting.go:30", after := #[], guard := none }) rfl (fun K hK => ?_) AllReadyH.nil
              go_simp
              go_wp2_with fail
              refine hK.out _ _ ?_ (fun hHeld => ?_)
              · exact ⟨keep1 HA5.out d1, keep1 HA5.out d2⟩
              clear hK K
              (try simp only [Act.put, List.setIfInBounds_toArray, List.set_cons_zero, List.set_cons_succ])
              refine wpAnyH_ready (rs := [10]) (by kernel_rfl) (by simp) ?_
              refine AllReadyH.cons (o := { dst := some 55, op := Op.call { callee := Callee.value (Operand.func 50), args := #[Operand.tmp 50, Operand.tmp 52, Operand.tmp 54], argTypes := #[70, 3, 70] }, type := 70, pos := "l5_rewriting.go:30", after := #[{ on := 5, ground := Ground.data }, { on := 7, ground := Ground.data }, { on := 9, ground := Ground.data }], guard := none }) rfl (fun K hK => ?_) AllReadyH.nil
              go_simp
              go_wp2_with (go_at_call 50; refine HSM.out.mono ?_; rintro e w3 ⟨hB3, g7, c7, rfl, hq3, hq4, hr3⟩; have HB3 := Lib.hid (below_step HA5.out hB3); have HBB := Lib.hid (below_step HW2.out HB3.out); have e1 := keep1 HB3.out d1; have e2 := keep1 HB3.out d2; obtain ⟨L7, hL7⟩ : ∃ L7, L7 = (addAll [] (sclTm (-(iv : Int)) ps')).length := ⟨_, rfl⟩; rw [← hL7]; clear hB3 hr3 hL7)
              refine hK.out _ _ ?_ (fun hHeld => ?_)
              · exact ⟨e1, e2⟩
              clear hK K
              (try simp only [Act.put, List.setIfInBounds_toArray, List.set_cons_zero, List.set_cons_succ])
              refine wpAnyH_take (i := 11) (oi := { dst := some 56, op := Op.build 190 #[(0, Operand.tmp 49), (1, Operand.tmp 55)], type := 190, pos := "l5_rewriting.go:30", after := #[{ on := 4, ground := Ground.data }, { on := 10, ground := Ground.data }], guard := none }) (v := ?_) rfl (by kernel_rfl) (by kernel_rfl) (by kernel_rfl) (fun _ _ _ h => h) (Or.inl ⟨by rfl, ?_⟩) (by assumption) ?_
              rotate_left
              · (intro w hSw; (try dsimp only at hSw); go_simp <;> with_reducible rfl)
              (try simp only [Act.put, List.setIfInBounds_toArray, List.set_cons_zero, List.set_cons_succ])
              refine wpAnyH_ready (rs := [12]) (by kernel_rfl) (by simp) ?_
              refine AllReadyH.cons (o := { dst := some 57, op := Op.buildSlice 109 1 #[(0, Operand.tmp 56)], type := 109, pos := "l5_rewriting.go:30", after := #[{ on := 11, ground := Ground.data }], guard := none }) rfl (fun K hK => ?_) AllReadyH.nil
              go_simp
              go_wp2_with fail
              refine hK.out _ _ ?_ (fun hHeld => ?_)
              · exact ⟨keep1 ((Below.refl w3.heap.size w3).alloc (Nat.le_refl _) _) e1, keep1 ((Below.refl w3.heap.size w3).alloc (Nat.le_refl _) _) e2⟩
              clear hK K
              (try simp only [Act.put, List.setIfInBounds_toArray, List.set_cons_zero, List.set_cons_succ])
              refine wpAnyH_ready (rs := [13]) (by kernel_rfl) (by simp) ?_
              refine AllReadyH.cons (o := { dst := some 58, op := Op.call { callee := Callee.builtin Builtin.append, args := #[Operand.tmp 45, Operand.tmp 57], argTypes := #[109, 109] }, type := 109, pos := "l5_rewriting.go:30", after := #[{ on := 0, ground := Ground.data }, { on := 12, ground := Ground.data }, { on := 10, ground := Ground.chain }], guard := none }) rfl (fun K hK => ?_) AllReadyH.nil
              have hs3 := HBB.out.size
              have hs1 := HB1.out.size
              have hne2 : (Value.slice va k vc).ownBlock ≠ some g2 := fun e => by have := (HROW.out.lt g2 e).2; omega
              have OWN := owns_below HOWN.out HBB.out
              have HOW3 := Lib.hid OWN
              refine step_append_lies _ (by rfl) _ _ 109 (by rfl) w.heap.size 190 i0 (.agg #[.string ⟨#[]⟩, .slice none 0 0, .slice none 0 0]) 3 64 Try.underlying109 hi0 hzz hzs hzb rfl (by decide) (.slice va k vc) k vs (by rfl) (World.ownsRow.alloc OWN (.cells #[.string ⟨#[ch]⟩, .slice sa sn sc, .slice (some ⟨g7, 0, none⟩) L7 c7] 190 (0, 0))) ⟨w3.heap.size, 0, none⟩ 1 1 [.string ⟨#[ch]⟩, .slice sa sn sc, .slice (some ⟨g7, 0, none⟩) L7 c7] (by rfl) (by rfl) (cells_three rfl _ _ _) (by simp [Value.oneCell']) (by decide) (by unfold maxLen; omega) (by omega) (by have := HB.out.size; simp; omega) (w3.heap.size + 1) (by simp) ?_
              intro g9 q9 w9 hown9 hg9 hf9 hlt9
              have hA12 : Below w3.heap.size w3 (w3.alloc (.cells #[.string ⟨#[ch]⟩, .slice sa sn sc, .slice (some ⟨g7, 0, none⟩) L7 c7] 190 (0, 0))) := (Below.refl _ _).alloc (Nat.le_refl _) _
              have hnb : ∀ b, b < w3.heap.size → (Value.slice va k vc).ownBlock ≠ some b → w9.heap[b]? = w3.heap[b]? := fun b hb hne => by rw [hg9.block b (by simp; omega) (fun e => hne e.symm), hA12.block b hb]
              refine hK.out _ _ ?_ (fun hHeld => ?_)
              · have hg2l : g2 < w3.heap.size := World.block_lt_of_cell? w3 ⟨g2, 1, none⟩ e1
                exact ⟨by rw [World.cell?_of_block (w := w3) (hnb g2 hg2l hne2)]; exact e1, by rw [World.cell?_of_block (w := w3) (hnb g2 hg2l hne2)]; exact e2⟩
              clear hK K
              (try simp only [Act.put, List.setIfInBounds_toArray, List.set_cons_zero, List.set_cons_succ])
              refine wpAnyH_take (i := 14) (oi := { dst := some 4, op := Op.assign (Operand.tmp 58), type := 109, pos := "l5_rewriting.go:30", after := #[{ on := 13, ground := Ground.data }, { on := 13, ground := Ground.chain }, { on := 0, ground := Ground.phase }, { on := 1, ground := Ground.phase }, { on := 2, ground := Ground.phase }, { on := 3, ground := Ground.phase }, { on := 4, ground := Ground.phase }, { on := 5, ground := Ground.phase }, { on := 6, ground := Ground.phase }, { on := 7, ground := Ground.phase }, { on := 8, ground := Ground.phase }, { on := 9, ground := Ground.phase }, { on := 10, ground := Ground.phase }, { on := 11, ground := Ground.phase }, { on := 12, ground := Ground.phase }, { on := 13, ground := Ground.phase }], guard := none }) (v := ?_) rfl (by kernel_rfl) (by kernel_rfl) (by kernel_rfl) (fun _ _ _ h => h) (Or.inl ⟨by rfl, ?_⟩) (by assumption) ?_
              rotate_left
              · (intro w hSw; (try dsimp only at hSw); go_simp <;> with_reducible rfl)
              (try simp only [Act.put, List.setIfInBounds_toArray, List.set_cons_zero, List.set_cons_succ])
              refine wpAnyH_done (by kernel_rfl) ?_ _
              all_goals
                have hs9 := hg9.size
                have BB := Lib.hid ((((below_step HBB1.out HBB.out)).alloc (by omega) (.cells #[.string ⟨#[ch]⟩, .slice sa sn sc, .slice (some ⟨g7, 0, none⟩) L7 c7] 190 (0, 0))).grown hg9 (by simp; omega) (fun q e => by have := (HOWN.out.lt q e).1; omega))
                have HO9 := Lib.hid hown9
                clear hown9 hg9 hf9 hnb hA12
                go_wp2_with fail
                go_roundw
                case rel => exact ⟨rs ++ [(p, ps')], k + 1, some ⟨g9, 0, none⟩, q9, _, by rw [List.length_append]; have := HKP.out; simp; omega, by omega, by simp, by go_num, rfl, HTK.out, HO9.out, BB.out⟩
                case measure => simp [intOf]; omega
            · have hcc1 : 1 < cc1 := by omega
              clear HSM1
              go_wp2_with fail
              refine wp_region_held_drew (S := (fun w' => w'.cell? ⟨g2, 1, none⟩ = some (.string ⟨#[ch]⟩) ∧ w'.cell? ⟨g2, 2, none⟩ = some (.slice sa sn sc))) (by kernel_rfl) (by exact ⟨d1, d2⟩) (fun hHeld => ?_)
              refine wpAnyH_take (i := 0) (oi := { dst := some 45, op := Op.move (Operand.tmp 4), type := 109, pos := "l5_rewriting.go:30", after := #[], guard := none }) (v := ?_) rfl (by kernel_rfl) (by kernel_rfl) (by kernel_rfl) (fun _ _ _ h => h) (Or.inl ⟨by rfl, ?_⟩) (by assumption) ?_
              rotate_left
              · (intro w hSw; (try dsimp only at hSw); go_simp <;> with_reducible rfl)
              (try simp only [Act.put, List.setIfInBounds_toArray, List.set_cons_zero, List.set_cons_succ])
              refine wpAnyH_take (i := 1) (oi := { dst := some 46, op := Op.move (Operand.tmp 6), type := 70, pos := "l5_rewriting.go:30", after := #[], guard := none }) (v := ?_) rfl (by kernel_rfl) (by kernel_rfl) (by kernel_rfl) (fun _ _ _ h => h) (Or.inl ⟨by rfl, ?_⟩) (by assumption) ?_
              rotate_left
              · (intro w hSw; (try dsimp only at hSw); go_simp <;> with_reducible rfl)
              (try simp only [Act.put, List.setIfInBounds_toArray, List.set_cons_zero, List.set_cons_succ])
              refine wpAnyH_take (i := 2) (oi := { dst := some 47, op := Op.indexAddr 70 (Operand.tmp 46) (Operand.const (Value.int IntKind.i64 0)), type := 0, pos := "l5_rewriting.go:30", after := #[{ on := 1, ground := Ground.data }], guard := none }) (v := ?_) rfl (by kernel_rfl) (by kernel_rfl) (by kernel_rfl) (fun _ _ _ h => h) (Or.inl ⟨by rfl, ?_⟩) (by assumption) ?_
              rotate_left
              · (intro w hSw; (try dsimp only at hSw); go_simp <;> with_reducible rfl)
              (try simp only [Act.put, List.setIfInBounds_toArray, List.set_cons_zero, List.set_cons_succ])
              refine wpAnyH_take (i := 3) (oi := { dst := some 48, op := Op.fieldAddr 78 (Operand.tmp 47) 1, type := 0, pos := "l5_rewriting.go:30", after := #[{ on := 2, ground := Ground.data }], guard := none }) (v := ?_) rfl (by kernel_rfl) (by kernel_rfl) (by kernel_rfl) (fun _ _ _ h => h) (Or.inl ⟨by rfl, ?_⟩) (by assumption) ?_
              rotate_left
              · (intro w hSw; (try dsimp only at hSw); go_simp <;> with_reducible rfl)
              (try simp only [Act.put, List.setIfInBounds_toArray, List.set_cons_zero, List.set_cons_succ])
              refine wpAnyH_take (i := 4) (oi := { dst := some 49, op := Op.load 76 (Operand.tmp 48), type := 76, pos := "l5_rewriting.go:30", after := #[{ on := 3, ground := Ground.data }], guard := none }) (v := ?_) rfl (by kernel_rfl) (by kernel_rfl) (by kernel_rfl) (fun _ _ _ h => h) (Or.inl ⟨by rfl, ?_⟩) (by assumption) ?_
              rotate_left
              · (intro w hSw; (try dsimp only at hSw); go_simp <;> with_reducible rfl)
              (try simp only [Act.put, List.setIfInBounds_toArray, List.set_cons_zero, List.set_cons_succ])
              refine wpAnyH_take (i := 6) (oi := { dst := some 51, op := Op.move (Operand.tmp 8), type := 3, pos := "l5_rewriting.go:30", after := #[], guard := none }) (v := ?_) rfl (by kernel_rfl) (by kernel_rfl) (by kernel_rfl) (fun _ _ _ h => h) (Or.inl ⟨by rfl, ?_⟩) (by assumption) ?_
              rotate_left
              · (intro w hSw; (try dsimp only at hSw); go_simp <;> with_reducible rfl)
              (try simp only [Act.put, List.setIfInBounds_toArray, List.set_cons_zero, List.set_cons_succ])
              refine wpAnyH_take (i := 7) (oi := { dst := some 52, op := Op.binOp BinOp.sub 3 (Operand.const (Value.int IntKind.i64 0)) (Operand.tmp 51) 3, type := 3, pos := "l5_rewriting.go:30", after := #[{ on := 6, ground := Ground.data }], guard := none }) (v := ?_) rfl (by kernel_rfl) (by kernel_rfl) (by kernel_rfl) (fun _ _ _ h => h) (Or.inl ⟨by rfl, ?_⟩) (by assumption) ?_
              rotate_left
              · (intro w hSw; (try dsimp only at hSw); go_simp <;> with_reducible rfl)
              (try simp only [Act.put, List.setIfInBounds_toArray, List.set_cons_zero, List.set_cons_succ])
              refine wpAnyH_take (i := 8) (oi := { dst := some 53, op := Op.move (Operand.tmp 6), type := 70, pos := "l5_rewriting.go:30", after := #[], guard := none }) (v := ?_) rfl (by kernel_rfl) (by kernel_rfl) (by kernel_rfl) (fun _ _ _ h => h) (Or.inl ⟨by rfl, ?_⟩) (by assumption) ?_
              rotate_left
              · (intro w hSw; (try dsimp only at hSw); go_simp <;> with_reducible rfl)
              (try simp only [Act.put, List.setIfInBounds_toArray, List.set_cons_zero, List.set_cons_succ])
              refine wpAnyH_take (i := 9) (oi := { dst := some 54, op := Op.slice 70 (Operand.tmp 53) (some (Operand.const (Value.int IntKind.i64 1))) none none, type := 70, pos := "l5_rewriting.go:30", after := #[{ on := 8, ground := Ground.data }], guard := none }) (v := ?_) rfl (by kernel_rfl) (by kernel_rfl) (by kernel_rfl) (fun _ _ _ h => h) (Or.inl ⟨by rfl, ?_⟩) (by assumption) ?_
              rotate_left
              · (intro w hSw; (try dsimp only at hSw); go_simp <;> with_reducible rfl)
              (try simp only [Act.put, List.setIfInBounds_toArray, List.set_cons_zero, List.set_cons_succ])
              refine wpAnyH_ready (rs := [5]) (by kernel_rfl) (by simp) ?_
              refine AllReadyH.cons (o := { dst := some 50, op := Op.buildSlice 70 0 #[], type := 70, pos := "l5_rewriting.go:30", after := #[], guard := none }) rfl (fun K hK => ?_) AllReadyH.nil
              go_simp
              go_wp2_with fail
              refine hK.out _ _ ?_ (fun hHeld => ?_)
              · exact ⟨keep1 HA5.out d1, keep1 HA5.out d2⟩
              clear hK K
              (try simp only [Act.put, List.setIfInBounds_toArray, List.set_cons_zero, List.set_cons_succ])
              refine wpAnyH_ready (rs := [10]) (by kernel_rfl) (by simp) ?_
              refine AllReadyH.cons (o := { dst := some 55, op := Op.call { callee := Callee.value (Operand.func 50), args := #[Operand.tmp 50, Operand.tmp 52, Operand.tmp 54], argTypes := #[70, 3, 70] }, type := 70, pos := "l5_rewriting.go:30", after := #[{ on := 5, ground := Ground.data }, { on := 7, ground := Ground.data }, { on := 9, ground := Ground.data }], guard := none }) rfl (fun K hK => ?_) AllReadyH.nil
              go_simp
              go_wp2_with (go_at_call 50; refine HSM.out.mono ?_; rintro e w3 ⟨hB3, g7, c7, rfl, hq3, hq4, hr3⟩; have HB3 := Lib.hid (below_step HA5.out hB3); have HBB := Lib.hid (below_step HW2.out HB3.out); have e1 := keep1 HB3.out d1; have e2 := keep1 HB3.out d2; obtain ⟨L7, hL7⟩ : ∃ L7, L7 = (addAll [] (sclTm (-(iv : Int)) ps')).length := ⟨_, rfl⟩; rw [← hL7]; clear hB3 hr3 hL7)
              refine hK.out _ _ ?_ (fun hHeld => ?_)
              · exact ⟨e1, e2⟩
              clear hK K
              (try simp only [Act.put, List.setIfInBounds_toArray, List.set_cons_zero, List.set_cons_succ])
              refine wpAnyH_take (i := 11) (oi := { dst := some 56, op := Op.build 190 #[(0, Operand.tmp 49), (1, Operand.tmp 55)], type := 190, pos := "l5_rewriting.go:30", after := #[{ on := 4, ground := Ground.data }, { on := 10, ground := Ground.data }], guard := none }) (v := ?_) rfl (by kernel_rfl) (by kernel_rfl) (by kernel_rfl) (fun _ _ _ h => h) (Or.inl ⟨by rfl, ?_⟩) (by assumption) ?_
              rotate_left
              · (intro w hSw; (try dsimp only at hSw); go_simp <;> with_reducible rfl)
              (try simp only [Act.put, List.setIfInBounds_toArray, List.set_cons_zero, List.set_cons_succ])
              refine wpAnyH_ready (rs := [12]) (by kernel_rfl) (by simp) ?_
              refine AllReadyH.cons (o := { dst := some 57, op := Op.buildSlice 109 1 #[(0, Operand.tmp 56)], type := 109, pos := "l5_rewriting.go:30", after := #[{ on := 11, ground := Ground.data }], guard := none }) rfl (fun K hK => ?_) AllReadyH.nil
              go_simp
              go_wp2_with fail
              refine hK.out _ _ ?_ (fun hHeld => ?_)
              · exact ⟨keep1 ((Below.refl w3.heap.size w3).alloc (Nat.le_refl _) _) e1, keep1 ((Below.refl w3.heap.size w3).alloc (Nat.le_refl _) _) e2⟩
              clear hK K
              (try simp only [Act.put, List.setIfInBounds_toArray, List.set_cons_zero, List.set_cons_succ])
              refine wpAnyH_ready (rs := [13]) (by kernel_rfl) (by simp) ?_
              refine AllReadyH.cons (o := { dst := some 58, op := Op.call { callee := Callee.builtin Builtin.append, args := #[Operand.tmp 45, Operand.tmp 57], argTypes := #[109, 109] }, type := 109, pos := "l5_rewriting.go:30", after := #[{ on := 0, ground := Ground.data }, { on := 12, ground := Ground.data }, { on := 10, ground := Ground.chain }], guard := none }) rfl (fun K hK => ?_) AllReadyH.nil
              have hs3 := HBB.out.size
              have hs1 := HB1.out.size
              have hne2 : (Value.slice va k vc).ownBlock ≠ some g2 := fun e => by have := (HROW.out.lt g2 e).2; omega
              have OWN := owns_below HOWN.out HBB.out
              have HOW3 := Lib.hid OWN
              refine step_append_lies _ (by rfl) _ _ 109 (by rfl) w.heap.size 190 i0 (.agg #[.string ⟨#[]⟩, .slice none 0 0, .slice none 0 0]) 3 64 Try.underlying109 hi0 hzz hzs hzb rfl (by decide) (.slice va k vc) k vs (by rfl) (World.ownsRow.alloc OWN (.cells #[.string ⟨#[ch]⟩, .slice sa sn sc, .slice (some ⟨g7, 0, none⟩) L7 c7] 190 (0, 0))) ⟨w3.heap.size, 0, none⟩ 1 1 [.string ⟨#[ch]⟩, .slice sa sn sc, .slice (some ⟨g7, 0, none⟩) L7 c7] (by rfl) (by rfl) (cells_three rfl _ _ _) (by simp [Value.oneCell']) (by decide) (by unfold maxLen; omega) (by omega) (by have := HB.out.size; simp; omega) (w3.heap.size + 1) (by simp) ?_
              intro g9 q9 w9 hown9 hg9 hf9 hlt9
              have hA12 : Below w3.heap.size w3 (w3.alloc (.cells #[.string ⟨#[ch]⟩, .slice sa sn sc, .slice (some ⟨g7, 0, none⟩) L7 c7] 190 (0, 0))) := (Below.refl _ _).alloc (Nat.le_refl _) _
              have hnb : ∀ b, b < w3.heap.size → (Value.slice va k vc).ownBlock ≠ some b → w9.heap[b]? = w3.heap[b]? := fun b hb hne => by rw [hg9.block b (by simp; omega) (fun e => hne e.symm), hA12.block b hb]
              refine hK.out _ _ ?_ (fun hHeld => ?_)
              · have hg2l : g2 < w3.heap.size := World.block_lt_of_cell? w3 ⟨g2, 1, none⟩ e1
                exact ⟨by rw [World.cell?_of_block (w := w3) (hnb g2 hg2l hne2)]; exact e1, by rw [World.cell?_of_block (w := w3) (hnb g2 hg2l hne2)]; exact e2⟩
              clear hK K
              (try simp only [Act.put, List.setIfInBounds_toArray, List.set_cons_zero, List.set_cons_succ])
              refine wpAnyH_take (i := 14) (oi := { dst := some 4, op := Op.assign (Operand.tmp 58), type := 109, pos := "l5_rewriting.go:30", after := #[{ on := 13, ground := Ground.data }, { on := 13, ground := Ground.chain }, { on := 0, ground := Ground.phase }, { on := 1, ground := Ground.phase }, { on := 2, ground := Ground.phase }, { on := 3, ground := Ground.phase }, { on := 4, ground := Ground.phase }, { on := 5, ground := Ground.phase }, { on := 6, ground := Ground.phase }, { on := 7, ground := Ground.phase }, { on := 8, ground := Ground.phase }, { on := 9, ground := Ground.phase }, { on := 10, ground := Ground.phase }, { on := 11, ground := Ground.phase }, { on := 12, ground := Ground.phase }, { on := 13, ground := Ground.phase }], guard := none }) (v := ?_) rfl (by kernel_rfl) (by kernel_rfl) (by kernel_rfl) (fun _ _ _ h => h) (Or.inl ⟨by rfl, ?_⟩) (by assumption) ?_
              rotate_left
              · (intro w hSw; (try dsimp only at hSw); go_simp <;> with_reducible rfl)
              (try simp only [Act.put, List.setIfInBounds_toArray, List.set_cons_zero, List.set_cons_succ])
              refine wpAnyH_done (by kernel_rfl) ?_ _
              all_goals
                have hs9 := hg9.size
                have BB := Lib.hid ((((below_step HBB1.out HBB.out)).alloc (by omega) (.cells #[.string ⟨#[ch]⟩, .slice sa sn sc, .slice (some ⟨g7, 0, none⟩) L7 c7] 190 (0, 0))).grown hg9 (by simp; omega) (fun q e => by have := (HOWN.out.lt q e).1; omega))
                have HO9 := Lib.hid hown9
                clear hown9 hg9 hf9 hnb hA12
                go_wp2_with fail
                go_roundw
                case rel => exact ⟨rs ++ [(p, ps')], k + 1, some ⟨g9, 0, none⟩, q9, _, by rw [List.length_append]; have := HKP.out; simp; omega, by omega, by simp, by go_num, rfl, HTK.out, HO9.out, BB.out⟩
                case measure => simp [intOf]; omega
    · have hkn : k = n := by omega
      have hb : (decide ((n : Int) ≤ 10)) = (rulesOf xss).isSome := by
        have h1 := HRD.out
        rw [hkn, HNN.out, List.take_length] at h1
        unfold rulesOf
        by_cases h10 : n ≤ 10
        · rw [if_neg (by have := HNN.out; omega), h1, decide_eq_true (by omega)]; rfl
        · rw [if_pos (by have := HNN.out; omega), decide_eq_false (by omega)]; rfl
      obtain ⟨bb, hbb⟩ : ∃ bb, bb = (rulesOf xss).isSome := ⟨_, rfl⟩
      rw [← hbb] at hb
      have HBV := Lib.hid hbb
      clear hkp hva hrd hrow hbb
      go_wp2_with fail
      go_ret2
      exact ⟨HB.out, _, _, _, by rw [← HBV.out]; first | rfl | (rw [← hb]; rfl)⟩

end Go.Proofs.Ytflmdknienjlmaa
