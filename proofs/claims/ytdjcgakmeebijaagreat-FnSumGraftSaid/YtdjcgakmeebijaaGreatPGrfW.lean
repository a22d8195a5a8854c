/- Merged out of: XPGrfM, XNilSum, XPGrf, XPGrfP. -/
import Derived.Test.YtdjcgakmeebijaaGreatKPSum
import Derived.Test.YtdjcgakmeebijaaGreatPOrdA
import Derived.Test.YtdjcgakmeebijaaGreatKGrfS
import Derived.Test.YtdjcgakmeebijaaGreatSumOpsI
import Derived.Test.YtdjcgakmeebijaaGreatGrfJ
section
/- What FnSumGraft says, as mathematics. No walk here. -/
namespace Go.Proofs.YtdjcgakmeebijaaGreat
open Go.RowKit

/-- What a function of trees comes to over a list of terms. -/
def sumF (F : T → Int) : List Tm → Int
  | [] => 0
  | p :: r => p.1 * F p.2 + sumF F r

theorem sumF_append (F : T → Int) : ∀ (a b : List Tm), sumF F (a ++ b) = sumF F a + sumF F b
  | [], b => by simp [sumF]
  | p :: a, b => by rw [List.cons_append, sumF, sumF, sumF_append F a b]; omega

theorem sumF_scl (F : T → Int) (m : Int) : ∀ (ps : List Tm), sumF F (sclTm m ps) = m * sumF F ps
  | [] => by simp [sumF, sclTm]
  | p :: ps => by
    have ih := sumF_scl F m ps
    have e : sclTm m (p :: ps) = (m * p.1, p.2) :: sclTm m ps := by simp [sclTm]
    rw [e, sumF, sumF, ih, Int.mul_add, Int.mul_assoc]

theorem mod_mul {a b : Int} (c : Int) (h : (a - b) % 101 = 0) : (a * c - b * c) % 101 = 0 := by
  rw [← Int.sub_mul, Int.mul_emod, h, Int.zero_mul]; rfl

theorem sumF_put (F : T → Int) (c : Int) (t : T) (r : List Tm) : (sumF F (put c t r) - (c * F t + sumF F r)) % 101 = 0 := by
  unfold put
  by_cases h : c % 101 = 0
  · rw [if_pos h]
    have := mod_mul (F t) (a := c) (b := 0) (by omega)
    rw [Int.zero_mul] at this
    omega
  · rw [if_neg h, sumF]
    have := mod_mul (F t) (a := c % 101) (b := c) (by omega)
    simp only
    omega

theorem sumF_addT (F : T → Int) : ∀ (l : List Tm) (c : Int) (t : T), t.wf → (∀ p ∈ l, p.2.wf) → (sumF F (addT l c t) - (c * F t + sumF F l)) % 101 = 0
  | [], c, t, _, _ => by rw [addT]; exact sumF_put F c t []
  | q :: r, c, t, ht, hl => by
    rw [addT]
    by_cases h1 : 0 < ordT q.2 t
    · rw [if_pos h1]
      have ih := sumF_addT F r c t ht (fun p hp => hl p (by simp [hp]))
      simp only [sumF]
      omega
    · rw [if_neg h1]
      by_cases h2 : ordT q.2 t = 0
      · rw [if_pos h2]
        have hp := sumF_put F (c + q.1) t r
        have e := ordT_zero (hl q (by simp)) ht h2
        simp only [sumF, e]
        rw [Int.add_mul] at hp
        omega
      · rw [if_neg h2]
        exact sumF_put F c t (q :: r)

theorem sumF_addAll (F : T → Int) : ∀ (ps l : List Tm), NF l → (∀ p ∈ ps, p.2.wf) → (sumF F (addAll l ps) - (sumF F l + sumF F ps)) % 101 = 0
  | [], l, _, _ => by rw [addAll_nil, sumF]; omega
  | p :: ps, l, hl, hp => by
    have hpw := hp p (by simp)
    have ih := sumF_addAll F ps (addT l p.1 p.2) (NF.addT hl hpw) (fun q hq => hp q (by simp [hq]))
    have h := sumF_addT F l p.1 p.2 hpw (fun q hq => (hl.2 q hq).2.2)
    rw [addAll_cons, sumF]
    omega

theorem sumF_canon (F : T → Int) {ps : List Tm} (hp : ∀ p ∈ ps, p.2.wf) : (sumF F (canon ps) - sumF F ps) % 101 = 0 := by
  have h := sumF_addAll F ps [] NF.nil hp
  rw [sumF] at h
  unfold canon
  omega

theorem cf_grfRow (k : Nat) (p : Tm) (t : T) : ∀ (qs : List Tm), cf (grfRow k p qs) t = p.1 * sumF (fun v => if ordT (grf k p.2 v) t = 0 then 1 else 0) qs
  | [] => by simp [grfRow, cf, sumF]
  | q :: qs => by
    have ih := cf_grfRow k p t qs
    have e : grfRow k p (q :: qs) = (p.1 * q.1, grf k p.2 q.2) :: grfRow k p qs := by simp [grfRow]
    rw [e, cf, sumF, ih, Int.mul_add]
    congr 1
    simp only
    split
    · rw [Int.mul_one]
    · rw [Int.mul_zero, Int.mul_zero]

theorem cf_grfTm (k : Nat) (qs : List Tm) (t : T) : ∀ (ps : List Tm), cf (grfTm k ps qs) t = sumF (fun s => sumF (fun v => if ordT (grf k s v) t = 0 then 1 else 0) qs) ps
  | [] => by simp [grfTm, cf, sumF]
  | p :: ps => by
    have e : grfTm k (p :: ps) qs = grfRow k p qs ++ grfTm k ps qs := by simp [grfTm]
    rw [e, cf_append, cf_grfRow, cf_grfTm k qs t ps, sumF]

/-- Twice the left. -/
theorem cf_grf_l (k : Nat) {ps : List Tm} (qs : List Tm) (hp : ∀ p ∈ ps, p.2.wf) (m : Int) (t : T) : (cf (grfTm k (canon (sclTm m ps)) qs) t - m * cf (grfTm k ps qs) t) % 101 = 0 := by
  rw [cf_grfTm, cf_grfTm, ← sumF_scl]
  exact sumF_canon _ (fun p h => by
    obtain ⟨q, hq, rfl⟩ := List.mem_map.1 h
    exact hp q hq)

theorem sumF_congr {F G : T → Int} (m : Int) (h : ∀ s, (F s - m * G s) % 101 = 0) : ∀ (ps : List Tm), (sumF F ps - m * sumF G ps) % 101 = 0
  | [] => by simp [sumF]
  | p :: ps => by
    have ih := sumF_congr m h ps
    have h1 := mod_mul p.1 (h p.2)
    rw [sumF, sumF, Int.mul_add]
    have e1 : F p.2 * p.1 = p.1 * F p.2 := Int.mul_comm _ _
    have e2 : m * G p.2 * p.1 = m * (p.1 * G p.2) := by rw [Int.mul_assoc, Int.mul_comm (G p.2)]
    rw [e1, e2] at h1
    omega

/-- Twice the right. -/
theorem cf_grf_r (k : Nat) (ps : List Tm) {qs : List Tm} (hq : ∀ p ∈ qs, p.2.wf) (m : Int) (t : T) : (cf (grfTm k ps (canon (sclTm m qs))) t - m * cf (grfTm k ps qs) t) % 101 = 0 := by
  rw [cf_grfTm, cf_grfTm]
  refine sumF_congr m (fun s => ?_) ps
  rw [← sumF_scl]
  exact sumF_canon _ (fun p h => by
    obtain ⟨q, hq', rfl⟩ := List.mem_map.1 h
    exact hq q hq')

set_option maxRecDepth 100000 in
theorem prime_mul {a b : Int} (ha : 1 ≤ a) (ha2 : a ≤ 100) (hb : 1 ≤ b) (hb2 : b ≤ 100) : ¬ a * b % 101 = 0 := by
  have key : ∀ n : Nat, n < 101 → 1 ≤ n → ∃ i : Nat, i < 101 ∧ i * n % 101 = 1 := by decide
  obtain ⟨i, _, hi⟩ := key a.toNat (by omega) (by omega)
  intro h
  have h2 := Int.mul_emod (i : Int) (a * b) 101
  rw [h, Int.mul_zero, ← Int.mul_assoc] at h2
  have h3 : ((i : Int) * a) % 101 = 1 := by
    have : a = (a.toNat : Int) := by omega
    rw [this]; exact_mod_cast hi
  rw [Int.mul_emod, h3, Int.one_mul] at h2
  omega

/-- The greatest of all grafts is the graft of the greatest. -/
theorem canon_lead {c : Int} {t : T} {rest : List Tm} (hc : ¬ c % 101 = 0) (ht : t.wf) (hr : ∀ r ∈ rest, r.2.wf ∧ 0 < ordT t r.2) : ∃ os, canon ((c, t) :: rest) = (c % 101, t) :: os := by
  refine ⟨canon rest, (canon_of ?_ ?_ (fun s => ?_)).symm⟩
  · have hn : NF (canon rest) := NF.canon (fun p hp => (hr p hp).1)
    refine ⟨List.pairwise_cons.2 ⟨fun x hx => ?_, hn.1⟩, fun p hp => ?_⟩
    · obtain ⟨q, hq, e⟩ := mem_canon hx
      rw [e]; exact (hr q hq).2
    · rcases List.mem_cons.1 hp with e | e
      · subst e; exact ⟨by show 1 ≤ c % 101; omega, by show c % 101 ≤ 100; omega, ht⟩
      · exact hn.2 p e
  · intro p hp
    rcases List.mem_cons.1 hp with e | e
    · subst e; exact ht
    · exact (hr p e).1
  · have h := cf_canon rest s
    simp only [cf]
    split <;> omega

theorem grf_lead {k : Nat} {p q : Tm} {ps qs : List Tm} (hp : NF (p :: ps)) (hq : NF (q :: qs)) (hsp : Same (p :: ps)) (hsq : Same (q :: qs)) (hk : k < p.2.leaves) :
    ∃ os, canon (grfTm k (p :: ps) (q :: qs)) = (p.1 * q.1 % 101, grf k p.2 q.2) :: os := by
  have e : grfTm k (p :: ps) (q :: qs) = (p.1 * q.1, grf k p.2 q.2) :: (grfRow k p qs ++ grfTm k ps (q :: qs)) := by simp [grfTm, grfRow]
  rw [e]
  have hpw := hp.2 p (by simp)
  have hqw := hq.2 q (by simp)
  refine canon_lead (prime_mul hpw.1 hpw.2.1 hqw.1 hqw.2.1) (grf_wf hpw.2.2 hqw.2.2) (fun r hr => ?_)
  have hright : ∀ p' ∈ p :: ps, ∀ q' ∈ q :: qs, ordT (grf k p'.2 q.2) (grf k p'.2 q'.2) = ordT q.2 q'.2 := fun p' hp' q' hq' =>
    ord_graft_r (hp.2 p' hp').2.2 hqw.2.2 (hq.2 q' hq').2.2 (hsq q (by simp) q' hq') (by rw [hsp p' hp' p (by simp)]; exact hk)
  rcases List.mem_append.1 hr with h | h
  · obtain ⟨q', hq', rfl⟩ := List.mem_map.1 h
    refine ⟨grf_wf hpw.2.2 (hq.2 q' (by simp [hq'])).2.2, ?_⟩
    show 0 < ordT (grf k p.2 q.2) (grf k p.2 q'.2)
    rw [hright p (by simp) q' (by simp [hq'])]
    exact hq.head q' hq'
  · obtain ⟨p', hp', h2⟩ := List.mem_flatMap.1 h
    obtain ⟨q', hq', rfl⟩ := List.mem_map.1 h2
    have hpw' := (hp.2 p' (by simp [hp'])).2.2
    refine ⟨grf_wf hpw' (hq.2 q' hq').2.2, ?_⟩
    show 0 < ordT (grf k p.2 q.2) (grf k p'.2 q'.2)
    have h3 : ordT (grf k p.2 q.2) (grf k p'.2 q.2) = ordT p.2 p'.2 := ord_graft_l hpw.2.2 hpw' hqw.2.2 (hsp p (by simp) p' (by simp [hp'])) hk
    have h4 := hright p' (by simp [hp']) q' hq'
    refine isCmp_ordT.gt_ge (b := grf k p'.2 q.2) (by rw [h3]; exact hp.head p' hp') ?_
    rw [h4]
    rcases List.mem_cons.1 hq' with e | e
    · subst e; rw [isCmp_ordT.self]; exact Int.le_refl _
    · have := hq.head q' e; omega

/-- A product's trees have one number of leaves. -/
theorem grfTm_same {k : Nat} {ps qs : List Tm} (hp : ∀ p ∈ ps, p.2.wf) (hsp : Same ps) (hsq : Same qs) (hk : ∀ p ∈ ps, k < p.2.leaves) : Same (grfTm k ps qs) := fun x hx y hy => by
  obtain ⟨p, hp1, h1⟩ := List.mem_flatMap.1 hx
  obtain ⟨q, hq1, rfl⟩ := List.mem_map.1 h1
  obtain ⟨p', hp2, h2⟩ := List.mem_flatMap.1 hy
  obtain ⟨q', hq2, rfl⟩ := List.mem_map.1 h2
  have e1 := grf_leaves1 (u := q.2) (hp p hp1) (hk p hp1)
  have e2 := grf_leaves1 (u := q'.2) (hp p' hp2) (hk p' hp2)
  have e3 := hsp p hp1 p' hp2
  have e4 := hsq q hq1 q' hq2
  show (grf k p.2 q.2).leaves = (grf k p'.2 q'.2).leaves
  unfold grf
  omega

/-- Twice a sum that is not 0 is not 0, and has trees of the sum alone. -/
theorem twice_cons {p : Tm} {ps : List Tm} (h : NF (p :: ps)) : ∃ r rs, canon (sclTm 2 (p :: ps)) = r :: rs ∧ ∃ x ∈ p :: ps, r.2 = x.2 := by
  have hw : ∀ x ∈ sclTm 2 (p :: ps), x.2.wf := fun x hx => by
    obtain ⟨q, hq, rfl⟩ := List.mem_map.1 hx
    exact (h.2 q hq).2.2
  have h1 := cf_canon (sclTm 2 (p :: ps)) p.2
  rw [cf_scl, h.cf_head] at h1
  have hp := h.2 p (by simp)
  cases hc : canon (sclTm 2 (p :: ps)) with
  | nil => rw [hc, cf] at h1; omega
  | cons r rs =>
    refine ⟨r, rs, rfl, ?_⟩
    obtain ⟨x, hx, e⟩ := mem_canon (x := r) (ps := sclTm 2 (p :: ps)) (by rw [hc]; simp)
    obtain ⟨q, hq, rfl⟩ := List.mem_map.1 hx
    exact ⟨q, hq, e⟩

theorem grfOf_z {xs ys : List (Int × ByteArray)} {ps : List Tm} {k : Int} (h : sumOf xs = some ps) (h2 : sumOf ys = some []) : grfOf xs ys k = some [] := by
  unfold grfOf; rw [h, h2]; cases ps <;> rfl

theorem fnSumGraft_told {xs ys : List (Int × ByteArray)} {k : Int} {os : List Tm} (h : grfOf xs ys k = some os) : ∃ tw us vs, sclOf (txtTm os) 2 = some tw ∧ sclOf xs 2 = some us ∧ sclOf ys 2 = some vs ∧
    grfOf (txtTm us) ys k = some tw ∧ grfOf xs (txtTm vs) k = some tw := by
  unfold grfOf at h
  split at h
  · rename_i ps qs hx hy
    obtain ⟨u1, u2⟩ := scl_told hx 2 (by omega) (by omega)
    obtain ⟨v1, v2⟩ := scl_told hy 2 (by omega) (by omega)
    have nil_told : ∀ {zs : List (Int × ByteArray)}, sumOf zs = some [] → sclOf (txtTm []) 2 = some [] ∧ canon (sclTm 2 []) = [] := fun hz => by
      have e : canon (sclTm 2 []) = [] := rfl
      have := (scl_told hz 2 (by omega) (by omega)).1
      rw [← sum_txt hz, e] at this
      exact ⟨this, e⟩
    split at h
    · cases h
      obtain ⟨t1, t2⟩ := nil_told hx
      refine ⟨_, _, _, t1, u1, v1, ?_, ?_⟩
      · rw [t2] at u2 ⊢; unfold grfOf; rw [u2, hy]
      · unfold grfOf; rw [hx, v2]
    · cases h
      obtain ⟨t1, t2⟩ := nil_told hy
      refine ⟨_, _, _, t1, u1, v1, ?_, ?_⟩
      · exact grfOf_z u2 hy
      · rw [t2] at v2 ⊢; exact grfOf_z hx v2
    · rename_i p ps' q qs'
      split at h
      · rename_i hk
        obtain ⟨rfl, hol, hob⟩ := outOf_some h
        obtain ⟨hlp, htp, hnp⟩ := sum_trees hx
        obtain ⟨hlq, htq, hnq⟩ := sum_trees hy
        have hsp := sum_same hx
        have hsq := sum_same hy
        have hkk : ∀ x ∈ p :: ps', k.toNat < x.2.leaves := fun x hx' => by have := hsp x hx' p (by simp); omega
        have hgw : ∀ x ∈ grfTm k.toNat (p :: ps') (q :: qs'), x.2.wf := fun x hx' => by
          obtain ⟨a, ha, h1⟩ := List.mem_flatMap.1 hx'
          obtain ⟨b, hb, rfl⟩ := List.mem_map.1 h1
          exact grf_wf (htp a ha).1 (htq b hb).1
        have hO := NF.canon hgw
        have hOs : sumOf (txtTm (canon (grfTm k.toNat (p :: ps') (q :: qs')))) = some (canon (grfTm k.toNat (p :: ps') (q :: qs'))) := ok_sum hO hol hob (grfTm_same (fun x hx' => (htp x hx').1) hsp hsq hkk).canon
        obtain ⟨t1, t2⟩ := scl_told hOs 2 (by omega) (by omega)
        obtain ⟨hlt, htt, _⟩ := sum_trees t2
        have hout : outOf (canon (sclTm 2 (canon (grfTm k.toNat (p :: ps') (q :: qs'))))) = some (canon (sclTm 2 (canon (grfTm k.toNat (p :: ps') (q :: qs'))))) := outOf_yes hlt (fun x hx' => ⟨(htt x hx').2.1, (htt x hx').2.2.1⟩)
        have hsw : ∀ x ∈ sclTm 2 (canon (grfTm k.toNat (p :: ps') (q :: qs'))), x.2.wf := fun x hx' => by
          obtain ⟨a, ha, rfl⟩ := List.mem_map.1 hx'
          exact (hO.2 a ha).2.2
        have hcf : ∀ t, (cf (sclTm 2 (canon (grfTm k.toNat (p :: ps') (q :: qs')))) t - 2 * cf (grfTm k.toNat (p :: ps') (q :: qs')) t) % 101 = 0 := fun t => by
          rw [cf_scl]
          have := cf_canon (grfTm k.toNat (p :: ps') (q :: qs')) t
          omega
        refine ⟨_, _, _, t1, u1, v1, ?_, ?_⟩
        · obtain ⟨r, rs, hr, x, hxm, hxe⟩ := twice_cons hnp
          have hl := hsp x hxm p (by simp)
          have heq : canon (grfTm k.toNat (canon (sclTm 2 (p :: ps'))) (q :: qs')) = canon (sclTm 2 (canon (grfTm k.toNat (p :: ps') (q :: qs')))) := by
            refine canon_congr (fun y hy' => ?_) hsw (fun t => ?_)
            · obtain ⟨a, ha, h1⟩ := List.mem_flatMap.1 hy'
              obtain ⟨b, hb, rfl⟩ := List.mem_map.1 h1
              obtain ⟨a', ha', e⟩ := mem_canon ha
              obtain ⟨a'', ha'', rfl⟩ := List.mem_map.1 ha'
              exact grf_wf (by rw [e]; exact (htp a'' ha'').1) (htq b hb).1
            · have h1 := cf_grf_l k.toNat (q :: qs') (fun x hx' => (htp x hx').1) 2 t
              have h2 := hcf t
              omega
          rw [hr] at u2 heq ⊢
          unfold grfOf
          rw [u2, hy]
          simp only
          rw [if_pos (by rw [hxe, hl]; exact hk), heq, hout]
        · obtain ⟨r, rs, hr, x, hxm, hxe⟩ := twice_cons hnq
          have heq : canon (grfTm k.toNat (p :: ps') (canon (sclTm 2 (q :: qs')))) = canon (sclTm 2 (canon (grfTm k.toNat (p :: ps') (q :: qs')))) := by
            refine canon_congr (fun y hy' => ?_) hsw (fun t => ?_)
            · obtain ⟨a, ha, h1⟩ := List.mem_flatMap.1 hy'
              obtain ⟨b, hb, rfl⟩ := List.mem_map.1 h1
              obtain ⟨b', hb', e⟩ := mem_canon hb
              obtain ⟨b'', hb'', rfl⟩ := List.mem_map.1 hb'
              exact grf_wf (htp a ha).1 (by rw [e]; exact (htq b'' hb'').1)
            · have h1 := cf_grf_r k.toNat (p :: ps') (fun x hx' => (htq x hx').1) 2 t
              have h2 := hcf t
              omega
          rw [hr] at v2 heq ⊢
          unfold grfOf
          rw [hx, v2]
          simp only
          rw [if_pos hk, heq, hout]
      · cases h
  · cases h

/-- The first tree of a product, by the texts. -/
theorem fnSumGraft_lead {xs ys : List (Int × ByteArray)} {k : Int} {os : List Tm} (h : grfOf xs ys k = some os) : ((xs = [] ∨ ys = []) → os = []) ∧
    ∀ (h0 : 0 < xs.length) (h1 : 0 < ys.length), ∃ t os', graftOf (xs[0]).2.data.toList k (ys[0]).2.data.toList = some t ∧ t.leaves ≤ 12 ∧ t.nodes ≤ 16 ∧ os = ((xs[0]).1 * (ys[0]).1 % 101, t) :: os' := by
  unfold grfOf at h
  split at h
  · rename_i ps qs hx hy
    have rx := sum_reads hx
    have ry := sum_reads hy
    have lx := rx.length
    have ly := ry.length
    split at h
    · cases h
      exact ⟨fun _ => rfl, fun h0 => by simp at lx; subst lx; simp at h0⟩
    · cases h
      exact ⟨fun _ => rfl, fun _ h1 => by simp at ly; subst ly; simp at h1⟩
    · rename_i p ps' q qs'
      split at h
      · rename_i hk
        obtain ⟨rfl, hol, hob⟩ := outOf_some h
        obtain ⟨hlp, htp, hnp⟩ := sum_trees hx
        obtain ⟨hlq, htq, hnq⟩ := sum_trees hy
        refine ⟨fun hn => ?_, fun h0 h1 => ?_⟩
        · rcases hn with e | e
          · subst e; simp at lx
          · subst e; simp at ly
        · obtain ⟨os', ho⟩ := grf_lead hnp hnq (sum_same hx) (sum_same hy) (k := k.toNat) (by omega)
          cases xs with
          | nil => simp at h0
          | cons x xs =>
            cases ys with
            | nil => simp at h1
            | cons y ys =>
              unfold Reads at rx ry
              simp only [List.map_cons, List.cons.injEq, Prod.mk.injEq] at rx ry
              have hg : grf k.toNat p.2 q.2 = p.2.fill (oneIn p.2.leaves k.toNat q.2) := rfl
              have hb := hob (p.1 * q.1 % 101, grf k.toNat p.2 q.2) (by rw [ho]; simp)
              refine ⟨grf k.toNat p.2 q.2, os', ?_, hb.1, hb.2, ?_⟩
              · unfold graftOf
                simp only [List.getElem_cons_zero]
                rw [rx.1.2, ry.1.2]
                simp only
                rw [if_pos hk, hg]
              · rw [ho]
                simp only [List.getElem_cons_zero]
                rw [rx.1.1, ry.1.1]
      · cases h
  · cases h

end Go.Proofs.YtdjcgakmeebijaaGreat
end
section
/- A list of no terms, wherever it lies (a nil slice too): readTerms, readSum and SumScale by the program. FnSumGraft wants it: a product that is 0 is nil. -/
namespace Go.Proofs.YtdjcgakmeebijaaGreat
open Go.RowKit

set_option maxRecDepth 100000 in
set_option maxHeartbeats 1000000 in
theorem readTerms_zero (lo hi : Int) (a : Option Addr) (cap : Nat) (w : World) :
    Calls Tryz.prog 40 #[.slice a 0 cap, .int .i64 lo, .int .i64 hi] w (RTm lo hi [] w) := by
  go_enter Tryz.func40, Tryz.ntmps40
  go_wp2_with fail
  go_loopw [8, 19] (fun ov iv wr => iv = .int .i64 0 ∧ ov = .slice (some ⟨w.heap.size, 0, none⟩) 0 0 ∧ Below w.heap.size w wr) (fun _ _ _ => 0)
  case atStart => exact ⟨rfl, rfl, (Below.refl _ _).alloc (Nat.le_refl _) _⟩
  case round =>
    obtain ⟨rfl, rfl, hB⟩ := hrel
    have HB := Lib.hid hB
    clear hB
    go_wp2_with fail
    go_ret2
    exact ⟨HB.out, .inr ⟨[], w.heap.size, 0, rfl, rfl, fun _ h => by simp at h⟩⟩

theorem readSum_zero (a : Option Addr) (cap : Nat) (w : World) : Calls Tryz.prog 23 #[.slice a 0 cap] w (RSum [] w) :=
  readSum_of [] 0 a cap w (fun W _ => readTerms_zero 1 100 a cap W)

theorem iSumScale_zero (a : Option Addr) (cap : Nat) (m : Int) (w : World) : Calls Tryz.prog 8 #[.slice a 0 cap, .int .i64 m] w (TermsPost (sclOf [] m) w) :=
  iSumScale_of [] 0 a cap m w (readSum_zero a cap w)

end Go.Proofs.YtdjcgakmeebijaaGreat
end
section
/- What is drawn for FnSumGraft. -/
namespace Go.Proofs.YtdjcgakmeebijaaGreat
open Go.RowKit

/-- Two lists of terms are drawn, and a number. -/
def DrLKL (w : World) (e : Ending) (w' : World) : Prop :=
  Below w.heap.size w w' ∧ ∃ (ys zs : List (Int × ByteArray)) (g n c g' n' c' : Nat) (z : Int), e = .returned (.tuple #[.slice (some ⟨g, 0, none⟩) n c, .int .i64 z, .slice (some ⟨g', 0, none⟩) n' c']) ∧ -100 ≤ z ∧ z ≤ 100 ∧ n = ys.length ∧ n ≤ 60 ∧ TmSmall ys ∧ TermL w' g ys ∧ n' = zs.length ∧ n' ≤ 60 ∧ TmSmall zs ∧ TermL w' g' zs

set_option maxRecDepth 100000 in
set_option maxHeartbeats 1000000 in
theorem dSumGraft_any (bs : List Nat) (a : Option Addr) (cap : Nat) (w : World) (hn : bs.length ≤ 9223372036854775807) (hcap : bs.length ≤ cap) (h8 : ∀ z ∈ bs, z ≤ 255) (hl : LiesB w a bs) :
    Calls Tryz.prog 4 #[.slice a bs.length cap] w (DrLKL w) := by
  have HO := Lib.hid (l6Open_any bs a cap w hn hcap h8 hl)
  clear h8 hl
  go_enter Tryz.func4, Tryz.ntmps4
  go_wp2_with fail
  refine HO.out.mono ?_
  rintro e w1 ⟨rfl, hb1, hr1⟩
  have HP := Lib.hid (pick_any w.heap.size a cap 0 3 (bs.take 2000) w1 hr1 (by omega) (by omega) (by omega))
  have HB1 := Lib.hid hb1
  have hRw1 := hr1.cells.2.2.2
  clear hb1 hr1
  go_wp2_with fail
  refine HP.out.mono ?_
  rintro e w2 ⟨⟨k, hk, rfl⟩, hg2, hs2, hr2⟩
  obtain ⟨m, hm⟩ : ∃ m, m = 1 + k := ⟨_, rfl⟩
  have hwm : IntKind.i64.wrap (1 + (k : Int)) = (m : Int) := by rw [IntKind.wrap_i64]; omega
  have hm1 : 1 ≤ m ∧ m ≤ 3 := by omega
  have HB2 := Lib.hid (below_over HB1.out hg2 (fun r e => by cases e; exact Nat.le_refl _))
  have HX := Lib.hid (l91Sum_any w.heap.size a cap (bs.take 2000) 1 m w2 (by omega) (by omega) (by omega) hr2)
  have hRw2 := hr2.cells.2.2.2
  clear hg2 hs2 hr2 hm
  go_wp2_with fail
  refine HX.out.mono ?_
  rintro e w3 ⟨hg3, ys, g, n, c, q, rfl, hny, hn60, hsm, htl, hge, hr3, hq⟩
  have HB3 := Lib.hid (below_over HB2.out hg3 (fun r e => by cases e; exact Nat.le_refl _))
  have HP3 := Lib.hid (pick_any w.heap.size a cap q m (bs.take 2000) w3 hr3 (by omega) (by omega) (by omega))
  have HTL := Lib.hid htl
  have HNY := Lib.hid hny
  have hRw3 := hr3.cells.2.2.2
  clear hg3 hr3 htl hny
  go_wp2_with fail
  refine HP3.out.mono ?_
  rintro e w4 ⟨⟨x, hx, rfl⟩, hg4, hs4, hr4⟩
  have HB4 := Lib.hid (below_over HB3.out hg4 (fun r e => by cases e; exact Nat.le_refl _))
  have HT4 := Lib.hid (HTL.out.moved hg4 (by omega))
  have HP4 := Lib.hid (pick_any w.heap.size a cap (q + 1) 20 (bs.take 2000) w4 hr4 (by omega) (by omega) (by omega))
  have hRw4 := hr4.cells.2.2.2
  clear hg4 hs4 hr4
  go_wp2_with fail
  refine HP4.out.mono ?_
  rintro e w5 ⟨⟨x2, hx2, rfl⟩, hg5, hs5, hr5⟩
  have HB5 := Lib.hid (below_over HB4.out hg5 (fun r e => by cases e; exact Nat.le_refl _))
  have HT5 := Lib.hid (HT4.out.moved hg5 (by omega))
  obtain ⟨y, hy⟩ : ∃ y : Nat, y = x2 / 19 := ⟨_, rfl⟩
  have hy1 : (x2 : Int).tdiv 19 = (y : Int) := by rw [Int.tdiv_eq_ediv_of_nonneg (by omega)]; omega
  have hy2 : (x2 : Int) / 19 = (y : Int) := by omega
  have hwy : IntKind.i64.wrap (y : Int) = (y : Int) := by rw [IntKind.wrap_i64]; omega
  have hyb : y ≤ 1 := by omega
  obtain ⟨z, hz⟩ : ∃ z : Int, z = (x : Int) - (y : Int) := ⟨_, rfl⟩
  have hwz : IntKind.i64.wrap ((x : Int) - (y : Int)) = z := by rw [IntKind.wrap_i64]; omega
  have hzb : -100 ≤ z ∧ z ≤ 100 := by omega
  have HP5 := Lib.hid (pick_any w.heap.size a cap (q + 1 + 1) 3 (bs.take 2000) w5 hr5 (by omega) (by omega) (by omega))
  have hRw5 := hr5.cells.2.2.2
  clear hg5 hs5 hr5 hy hz
  go_wp2_with fail
  refine HP5.out.mono ?_
  rintro e w6 ⟨⟨x3, hx3, rfl⟩, hg6, hs6, hr6⟩
  have HB6 := Lib.hid (below_over HB5.out hg6 (fun r e => by cases e; exact Nat.le_refl _))
  have HT6 := Lib.hid (HT5.out.moved hg6 (by omega))
  obtain ⟨m2, hm2⟩ : ∃ m2, m2 = 1 + x3 := ⟨_, rfl⟩
  have hwm2 : IntKind.i64.wrap (1 + (x3 : Int)) = (m2 : Int) := by rw [IntKind.wrap_i64]; omega
  have hmb : 1 ≤ m2 ∧ m2 ≤ 3 := by omega
  have HX6 := Lib.hid (l91Sum_any w.heap.size a cap (bs.take 2000) (q + 1 + 1 + 1) m2 w6 (by omega) (by omega) (by omega) hr6)
  have hRw6 := hr6.cells.2.2.2
  clear hg6 hs6 hr6 hm2
  go_wp2_with fail
  refine HX6.out.mono ?_
  rintro e w7 ⟨hg7, zs, g', n', c', q', rfl, hny', hn60', hsm', htl', hge', hr7, hq'⟩
  have HB7 := Lib.hid (below_over HB6.out hg7 (fun r e => by cases e; exact Nat.le_refl _))
  have HT7 := Lib.hid (HT6.out.moved hg7 (by omega))
  have HNY' := Lib.hid hny'
  clear hg7 hr7 hny'
  go_wp2_with fail
  refine bodyPost_ret (v := .tuple #[.slice (some ⟨g, 0, none⟩) n c, .int .i64 z, .slice (some ⟨g', 0, none⟩) n' c']) (by simp [results, Tryz.results4, go_sem]) rfl ?_
  exact ⟨HB7.out, ys, zs, g, n, c, g', n', c', z, rfl, hzb.1, hzb.2, HNY.out, hn60, hsm, HT7.out, HNY'.out, hn60', hsm', htl'⟩

end Go.Proofs.YtdjcgakmeebijaaGreat
end
section
/- The promise FnSumGraft. -/
namespace Go.Proofs.YtdjcgakmeebijaaGreat
open Go.RowKit

theorem grfOf_sum {xs ys : List (Int × ByteArray)} {k : Int} {qs : List Tm} (h : grfOf xs ys k = some qs) : (∃ ps, sumOf xs = some ps) ∧ ∃ ps, sumOf ys = some ps := by
  unfold grfOf at h; split at h
  · exact ⟨⟨_, by assumption⟩, ⟨_, by assumption⟩⟩
  · cases h

theorem sum_pos {xs : List (Int × ByteArray)} {ps : List Tm} (h : sumOf xs = some ps) (j : Nat) (hj : j < xs.length) : 1 ≤ (xs[j]).1 ∧ (xs[j]).1 ≤ 100 := by
  have e := sum_txt h
  obtain ⟨_, h2, _⟩ := sum_trees h
  subst e
  rw [txtTm_length] at hj
  have h3 := h2 (ps[j]) (List.getElem_mem hj)
  simp only [txtTm, List.getElem_map]
  exact ⟨h3.2.2.2.1, h3.2.2.2.2⟩

/-- A list of terms is answered, which may lie nowhere. -/
def GotA (zs : List (Int × ByteArray)) (N : Nat) (w : World) (e : Ending) (w' : World) : Prop :=
  Below w.heap.size w w' ∧ ∃ a c, e = .returned (.tuple #[.slice a N c, .bool true]) ∧ TermO w' a zs

theorem TermsAny.lostO {o : Option (List Tm)} {w w' : World} {e : Ending} (ho : o = none) (h : TermsAny o w e w') : LostL w e w' := by
  subst ho
  obtain ⟨hB, ⟨b, a, c, rfl, ⟨_, rfl⟩ | ⟨h, _⟩⟩ | ⟨qs, _, _, _, _, h, _⟩⟩ := h
  · exact ⟨hB, a, c, rfl⟩
  · cases h
  · cases h
theorem TermsAny.gotL {o : Option (List Tm)} {qs : List Tm} {zs : List (Int × ByteArray)} {N : Nat} {w w' : World} {e : Ending} (ho : o = some qs) (hne : qs ≠ []) (hN : N = qs.length) (hz : txtTm qs = zs) (h : TermsAny o w e w') : GotL zs N w e w' := by
  subst ho hN hz
  obtain ⟨hB, ⟨b, a, c, rfl, ⟨h, _⟩ | ⟨h, _⟩⟩ | ⟨rs, g, c, cur, _, h, rfl, _, _, _, hl⟩⟩ := h
  · cases h
  · cases h; exact absurd rfl hne
  · cases h; exact ⟨hB, g, c, rfl, hl⟩
theorem TermsAny.gotA {o : Option (List Tm)} {qs : List Tm} {zs : List (Int × ByteArray)} {N : Nat} {w w' : World} {e : Ending} (ho : o = some qs) (hN : N = qs.length) (hz : txtTm qs = zs) (h : TermsAny o w e w') : GotA zs N w e w' := by
  subst ho hN hz
  obtain ⟨hB, ⟨b, a, c, rfl, ⟨h, _⟩ | ⟨h, rfl⟩⟩ | ⟨rs, g, c, cur, _, h, rfl, _, _, _, hl⟩⟩ := h
  · cases h
  · cases h; exact ⟨hB, a, c, rfl, TermO.none⟩
  · cases h; exact ⟨hB, _, c, rfl, hl.o⟩

set_option maxRecDepth 100000 in
set_option maxHeartbeats 4000000 in
theorem pSumGraft_any (bs : List Nat) (a : Option Addr) (cap : Nat) (w : World) (hl : LiesB w a bs) (h8 : ∀ z ∈ bs, z ≤ 255) (hn : bs.length ≤ 9223372036854775807) (hcap : bs.length ≤ cap) :
    Calls Tryz.prog 3 #[.slice a bs.length cap] w (Ans (.bool true) w) := by
  by_cases h : bs.length ≤ 1048576
  · have HD := Lib.hid (dSumGraft_any bs a cap w hn hcap h8 hl)
    clear h8 hl
    go_enter Tryz.func3, Tryz.ntmps3
    go_wp2_with fail
    refine HD.out.mono ?_
    rintro e w1 ⟨hB1, ys, zs, g, n, c, g', n', c', z, rfl, hz1, hz2, hny, hn60, hsm, htl, hny', hn60', hsm', htl'⟩
    have HB1 := Lib.hid hB1
    have A1_1 := Lib.hid (Below.refl w1.heap.size w1)
    have HL := Lib.hid htl
    have HL' := Lib.hid htl'
    have HNY := Lib.hid hny
    have HNY' := Lib.hid hny'
    have HSM := Lib.hid hsm
    have HSM' := Lib.hid hsm'
    have HSZ := Lib.hid hsm.size
    have HSZ' := Lib.hid hsm'.size
    clear hB1 htl hny hsm htl' hny' hsm'
    cases ho : grfOf ys zs z with
    | none =>
      have HE := Lib.hid ho
      clear ho
      go_wp2_with fail
      refine ((iSumGraft_any ys zs n n' HNY.out HNY'.out g c g' c' z w1 (by omega) (by omega) HSZ.out HSZ'.out (HL.out.below A1_1.out) (HL'.out.below A1_1.out)).mono fun _ _ h => TermsAny.lostO HE.out h).mono ?_
      rintro e w2 ⟨hB, ax, cx, rfl⟩
      have A1_2 := Lib.hid (below_step A1_1.out hB)
      have HB2 := Lib.hid (below_step HB1.out hB)
      clear hB
      go_wp2_with fail
      refine ((sSumGraft_any ys zs n n' HNY.out HNY'.out g c g' c' z w2 (by omega) (by omega) HSZ.out HSZ'.out (HL.out.below A1_2.out) (HL'.out.below A1_2.out)).mono fun _ _ h => TermsPost.lostO HE.out h).mono ?_
      rintro e w3 ⟨hB, ay, cy, rfl⟩
      have A1_3 := Lib.hid (below_step A1_2.out hB)
      have HB3 := Lib.hid (below_step HB2.out hB)
      clear hB
      go_wp2_with fail
      refine (sameSum_any [] 0 rfl ax ay cx cy w3 (by omega) TermO.none TermO.none).mono ?_
      rintro e w4 ⟨rfl, hB⟩
      have A1_4 := Lib.hid (below_step A1_3.out hB)
      have HB4 := Lib.hid (below_step HB3.out hB)
      clear hB
      go_wp2_with fail
      refine (sameSum_any [] 0 rfl ax ay cx cy w4 (by omega) TermO.none TermO.none).mono ?_
      rintro e w5 ⟨rfl, hB⟩
      have A1_5 := Lib.hid (below_step A1_4.out hB)
      have HB5 := Lib.hid (below_step HB4.out hB)
      clear hB
      go_wp2_with fail
      go_ret
      exact ⟨rfl, HB5.out⟩
    | some os =>
      obtain ⟨tw, us, vs, e1, e2, e3, e4, e5⟩ := fnSumGraft_told ho
      obtain ⟨l1, l2⟩ := fnSumGraft_lead ho
      have HE := Lib.hid ho
      have HE1 := Lib.hid e1
      have HE2 := Lib.hid e2
      have HE3 := Lib.hid e3
      have HE4 := Lib.hid e4
      have HE5 := Lib.hid e5
      have HL1 := Lib.hid l1
      have HL2 := Lib.hid l2
      obtain ⟨N, hN⟩ : ∃ N, N = os.length := ⟨_, rfl⟩
      obtain ⟨M, hM⟩ : ∃ M, M = tw.length := ⟨_, rfl⟩
      obtain ⟨nu, hnu⟩ : ∃ nu, nu = us.length := ⟨_, rfl⟩
      obtain ⟨nv, hnv⟩ : ∃ nv, nv = vs.length := ⟨_, rfl⟩
      have HNO := Lib.hid hN
      have HNM := Lib.hid hM
      have HNU := Lib.hid hnu
      have HNV := Lib.hid hnv
      have HNT : Hid (N = (txtTm os).length) := Lib.hid (by rw [txtTm_length]; exact hN)
      have HNMT : Hid (M = (txtTm tw).length) := Lib.hid (by rw [txtTm_length]; exact hM)
      have HNUT : Hid (nu = (txtTm us).length) := Lib.hid (by rw [txtTm_length]; exact hnu)
      have HNVT : Hid (nv = (txtTm vs).length) := Lib.hid (by rw [txtTm_length]; exact hnv)
      have so := sum_size (sclOf_sum e1)
      have su := sum_size (grfOf_sum e4).1
      have sv := sum_size (grfOf_sum e5).2
      have HSO := Lib.hid so.2
      have HSU := Lib.hid su.2
      have HSV := Lib.hid sv.2
      have hN60 : N ≤ 60 := by have := HNT.out; have := so.1; omega
      have hu60 : nu ≤ 60 := by have := HNUT.out; have := su.1; omega
      have hv60 : nv ≤ 60 := by have := HNVT.out; have := sv.1; omega
      have hM60 : M ≤ 60 := by rw [hM]; exact sclOf_len e1.symm
      clear ho e1 e2 e3 e4 e5 l1 l2 hN hM hnu hnv so su sv
      cases os with
      | nil =>
        have hzero : n = 0 ∨ (0 < n ∧ n' = 0) := by
          have h1 := HNY.out
          have h2 := HNY'.out
          by_cases hn0 : n = 0
          · exact .inl hn0
          · refine .inr ⟨by omega, ?_⟩
            by_cases hn1 : n' = 0
            · exact hn1
            · obtain ⟨t, os', _, _, _, h⟩ := HL2.out (by omega) (by omega)
              cases h
        have hN0 : N = 0 := HNO.out
        subst hN0
        have HZ0 := Lib.hid hzero
        clear hzero
        go_wp2_with fail
        refine ((iSumGraft_any ys zs n n' HNY.out HNY'.out g c g' c' z w1 (by omega) (by omega) HSZ.out HSZ'.out (HL.out.below A1_1.out) (HL'.out.below A1_1.out)).mono fun _ _ h => TermsAny.gotA HE.out (rfl : 0 = ([] : List Tm).length) rfl h).mono ?_
        rintro e w2 ⟨hB, ax, cx, rfl, _⟩
        have A1_2 := Lib.hid (below_step A1_1.out hB)
        have HB2 := Lib.hid (below_step HB1.out hB)
        clear hB
        go_wp2_with fail
        refine ((sSumGraft_any ys zs n n' HNY.out HNY'.out g c g' c' z w2 (by omega) (by omega) HSZ.out HSZ'.out (HL.out.below A1_2.out) (HL'.out.below A1_2.out)).mono fun _ _ h => TermsPost.gotO HE.out (rfl : 0 = ([] : List Tm).length) rfl h).mono ?_
        rintro e w3 ⟨hB, gy, cy, rfl, _⟩
        have A1_3 := Lib.hid (below_step A1_2.out hB)
        have HB3 := Lib.hid (below_step HB2.out hB)
        clear hB
        go_wp2_with fail
        refine (sameSum_any [] 0 rfl ax (some ⟨gy, 0, none⟩) cx cy w3 (by omega) TermO.none TermO.none).mono ?_
        rintro e w4 ⟨rfl, hB⟩
        have A1_4 := Lib.hid (below_step A1_3.out hB)
        have HB4 := Lib.hid (below_step HB3.out hB)
        clear hB
        go_wp2_with fail
        refine ((iSumScale_zero ax cx 2 w4).mono fun _ _ h => TermsPost.gotO HE1.out HNM.out rfl h).mono ?_
        rintro e w5 ⟨hB, gt, ct, rfl, ht⟩
        have A1_5 := Lib.hid (below_step A1_4.out hB)
        have HB5 := Lib.hid (below_step HB4.out hB)
        have HT := Lib.hid ht
        clear ht
        clear hB
        have A5_5 := Lib.hid (Below.refl w5.heap.size w5)
        go_wp2_with fail
        refine ((iSumScale_any ys n HNY.out g c 2 w5 (by omega) HSZ.out (HL.out.below A1_5.out)).mono fun _ _ h => TermsPost.gotO HE2.out HNU.out rfl h).mono ?_
        rintro e w6 ⟨hB, gu, cu, rfl, hu⟩
        have A1_6 := Lib.hid (below_step A1_5.out hB)
        have A5_6 := Lib.hid (below_step A5_5.out hB)
        have HB6 := Lib.hid (below_step HB5.out hB)
        have HU := Lib.hid hu
        clear hu
        clear hB
        have A6_6 := Lib.hid (Below.refl w6.heap.size w6)
        go_wp2_with fail
        refine ((iSumScale_any zs n' HNY'.out g' c' 2 w6 (by omega) HSZ'.out (HL'.out.below A1_6.out)).mono fun _ _ h => TermsPost.gotO HE3.out HNV.out rfl h).mono ?_
        rintro e w7 ⟨hB, gv, cv, rfl, hv⟩
        have A1_7 := Lib.hid (below_step A1_6.out hB)
        have A5_7 := Lib.hid (below_step A5_6.out hB)
        have A6_7 := Lib.hid (below_step A6_6.out hB)
        have HB7 := Lib.hid (below_step HB6.out hB)
        have HV := Lib.hid hv
        clear hv
        clear hB
        have A7_7 := Lib.hid (Below.refl w7.heap.size w7)
        go_wp2_with fail
        refine ((iSumGraft_any (txtTm us) zs nu n' HNUT.out HNY'.out gu cu g' c' z w7 (by omega) (by omega) HSU.out HSZ'.out (HU.out.below A6_7.out) (HL'.out.below A1_7.out)).mono fun _ _ h => TermsAny.gotA HE4.out HNM.out rfl h).mono ?_
        rintro e w8 ⟨hB, ap, cp, rfl, hp⟩
        have A1_8 := Lib.hid (below_step A1_7.out hB)
        have A5_8 := Lib.hid (below_step A5_7.out hB)
        have A6_8 := Lib.hid (below_step A6_7.out hB)
        have A7_8 := Lib.hid (below_step A7_7.out hB)
        have HB8 := Lib.hid (below_step HB7.out hB)
        have HP := Lib.hid hp
        clear hp
        clear hB
        have A8_8 := Lib.hid (Below.refl w8.heap.size w8)
        go_wp2_with fail
        refine ((iSumGraft_any ys (txtTm vs) n nv HNY.out HNVT.out g c gv cv z w8 (by omega) (by omega) HSZ.out HSV.out (HL.out.below A1_8.out) (HV.out.below A7_8.out)).mono fun _ _ h => TermsAny.gotA HE5.out HNM.out rfl h).mono ?_
        rintro e w9 ⟨hB, aq, cq, rfl, hq⟩
        have A1_9 := Lib.hid (below_step A1_8.out hB)
        have A5_9 := Lib.hid (below_step A5_8.out hB)
        have A6_9 := Lib.hid (below_step A6_8.out hB)
        have A7_9 := Lib.hid (below_step A7_8.out hB)
        have A8_9 := Lib.hid (below_step A8_8.out hB)
        have HB9 := Lib.hid (below_step HB8.out hB)
        have HQ := Lib.hid hq
        clear hq
        clear hB
        have A9_9 := Lib.hid (Below.refl w9.heap.size w9)
        go_wp2_with fail
        refine (sameSum_any (txtTm tw) M HNMT.out ap (some ⟨gt, 0, none⟩) cp ct w9 (by omega) (HP.out.below A8_9.out) (TermL.o (HT.out.below A5_9.out))).mono ?_
        rintro e w10 ⟨rfl, hB⟩
        have A1_10 := Lib.hid (below_step A1_9.out hB)
        have A5_10 := Lib.hid (below_step A5_9.out hB)
        have A6_10 := Lib.hid (below_step A6_9.out hB)
        have A7_10 := Lib.hid (below_step A7_9.out hB)
        have A8_10 := Lib.hid (below_step A8_9.out hB)
        have A9_10 := Lib.hid (below_step A9_9.out hB)
        have HB10 := Lib.hid (below_step HB9.out hB)
        clear hB
        go_wp2_with fail
        refine (sameSum_any (txtTm tw) M HNMT.out aq (some ⟨gt, 0, none⟩) cq ct w10 (by omega) (HQ.out.below A9_10.out) (TermL.o (HT.out.below A5_10.out))).mono ?_
        rintro e w11 ⟨rfl, hB⟩
        have A1_11 := Lib.hid (below_step A1_10.out hB)
        have A5_11 := Lib.hid (below_step A5_10.out hB)
        have A6_11 := Lib.hid (below_step A6_10.out hB)
        have A7_11 := Lib.hid (below_step A7_10.out hB)
        have A8_11 := Lib.hid (below_step A8_10.out hB)
        have A9_11 := Lib.hid (below_step A9_10.out hB)
        have HB11 := Lib.hid (below_step HB10.out hB)
        clear hB
        rcases HZ0.out with h0 | ⟨h0, h1⟩
        · subst h0
          go_wp2_with fail
          go_ret
          exact ⟨rfl, HB11.out⟩
        · subst h1
          have hne : ¬ n = 0 := by omega
          go_wp2_with fail
          go_ret
          exact ⟨rfl, HB11.out⟩
      | cons o1 os1 =>
        go_wp2_with fail
        refine ((iSumGraft_any ys zs n n' HNY.out HNY'.out g c g' c' z w1 (by omega) (by omega) HSZ.out HSZ'.out (HL.out.below A1_1.out) (HL'.out.below A1_1.out)).mono fun _ _ h => TermsAny.gotL HE.out (by simp) HNO.out rfl h).mono ?_
        rintro e w2 ⟨hB, gx, cx, rfl, hx⟩
        have A1_2 := Lib.hid (below_step A1_1.out hB)
        have HB2 := Lib.hid (below_step HB1.out hB)
        have HX := Lib.hid hx
        clear hx
        clear hB
        have A2_2 := Lib.hid (Below.refl w2.heap.size w2)
        go_wp2_with fail
        refine ((sSumGraft_any ys zs n n' HNY.out HNY'.out g c g' c' z w2 (by omega) (by omega) HSZ.out HSZ'.out (HL.out.below A1_2.out) (HL'.out.below A1_2.out)).mono fun _ _ h => TermsPost.gotO HE.out HNO.out rfl h).mono ?_
        rintro e w3 ⟨hB, gy, cy, rfl, hy⟩
        have A1_3 := Lib.hid (below_step A1_2.out hB)
        have A2_3 := Lib.hid (below_step A2_2.out hB)
        have HB3 := Lib.hid (below_step HB2.out hB)
        have HY := Lib.hid hy
        clear hy
        clear hB
        have A3_3 := Lib.hid (Below.refl w3.heap.size w3)
        go_wp2_with fail
        refine (sameSum_any (txtTm (o1 :: os1)) N HNT.out (some ⟨gx, 0, none⟩) (some ⟨gy, 0, none⟩) cx cy w3 (by omega) (TermL.o (HX.out.below A2_3.out)) (TermL.o (HY.out.below A3_3.out))).mono ?_
        rintro e w4 ⟨rfl, hB⟩
        have A1_4 := Lib.hid (below_step A1_3.out hB)
        have A2_4 := Lib.hid (below_step A2_3.out hB)
        have A3_4 := Lib.hid (below_step A3_3.out hB)
        have HB4 := Lib.hid (below_step HB3.out hB)
        clear hB
        go_wp2_with fail
        refine ((iSumScale_any (txtTm (o1 :: os1)) N HNT.out gx cx 2 w4 (by omega) HSO.out (HX.out.below A2_4.out)).mono fun _ _ h => TermsPost.gotO HE1.out HNM.out rfl h).mono ?_
        rintro e w5 ⟨hB, gt, ct, rfl, ht⟩
        have A1_5 := Lib.hid (below_step A1_4.out hB)
        have A2_5 := Lib.hid (below_step A2_4.out hB)
        have A3_5 := Lib.hid (below_step A3_4.out hB)
        have HB5 := Lib.hid (below_step HB4.out hB)
        have HT := Lib.hid ht
        clear ht
        clear hB
        have A5_5 := Lib.hid (Below.refl w5.heap.size w5)
        go_wp2_with fail
        refine ((iSumScale_any ys n HNY.out g c 2 w5 (by omega) HSZ.out (HL.out.below A1_5.out)).mono fun _ _ h => TermsPost.gotO HE2.out HNU.out rfl h).mono ?_
        rintro e w6 ⟨hB, gu, cu, rfl, hu⟩
        have A1_6 := Lib.hid (below_step A1_5.out hB)
        have A2_6 := Lib.hid (below_step A2_5.out hB)
        have A3_6 := Lib.hid (below_step A3_5.out hB)
        have A5_6 := Lib.hid (below_step A5_5.out hB)
        have HB6 := Lib.hid (below_step HB5.out hB)
        have HU := Lib.hid hu
        clear hu
        clear hB
        have A6_6 := Lib.hid (Below.refl w6.heap.size w6)
        go_wp2_with fail
        refine ((iSumScale_any zs n' HNY'.out g' c' 2 w6 (by omega) HSZ'.out (HL'.out.below A1_6.out)).mono fun _ _ h => TermsPost.gotO HE3.out HNV.out rfl h).mono ?_
        rintro e w7 ⟨hB, gv, cv, rfl, hv⟩
        have A1_7 := Lib.hid (below_step A1_6.out hB)
        have A2_7 := Lib.hid (below_step A2_6.out hB)
        have A3_7 := Lib.hid (below_step A3_6.out hB)
        have A5_7 := Lib.hid (below_step A5_6.out hB)
        have A6_7 := Lib.hid (below_step A6_6.out hB)
        have HB7 := Lib.hid (below_step HB6.out hB)
        have HV := Lib.hid hv
        clear hv
        clear hB
        have A7_7 := Lib.hid (Below.refl w7.heap.size w7)
        go_wp2_with fail
        refine ((iSumGraft_any (txtTm us) zs nu n' HNUT.out HNY'.out gu cu g' c' z w7 (by omega) (by omega) HSU.out HSZ'.out (HU.out.below A6_7.out) (HL'.out.below A1_7.out)).mono fun _ _ h => TermsAny.gotA HE4.out HNM.out rfl h).mono ?_
        rintro e w8 ⟨hB, ap, cp, rfl, hp⟩
        have A1_8 := Lib.hid (below_step A1_7.out hB)
        have A2_8 := Lib.hid (below_step A2_7.out hB)
        have A3_8 := Lib.hid (below_step A3_7.out hB)
        have A5_8 := Lib.hid (below_step A5_7.out hB)
        have A6_8 := Lib.hid (below_step A6_7.out hB)
        have A7_8 := Lib.hid (below_step A7_7.out hB)
        have HB8 := Lib.hid (below_step HB7.out hB)
        have HP := Lib.hid hp
        clear hp
        clear hB
        have A8_8 := Lib.hid (Below.refl w8.heap.size w8)
        go_wp2_with fail
        refine ((iSumGraft_any ys (txtTm vs) n nv HNY.out HNVT.out g c gv cv z w8 (by omega) (by omega) HSZ.out HSV.out (HL.out.below A1_8.out) (HV.out.below A7_8.out)).mono fun _ _ h => TermsAny.gotA HE5.out HNM.out rfl h).mono ?_
        rintro e w9 ⟨hB, aq, cq, rfl, hq⟩
        have A1_9 := Lib.hid (below_step A1_8.out hB)
        have A2_9 := Lib.hid (below_step A2_8.out hB)
        have A3_9 := Lib.hid (below_step A3_8.out hB)
        have A5_9 := Lib.hid (below_step A5_8.out hB)
        have A6_9 := Lib.hid (below_step A6_8.out hB)
        have A7_9 := Lib.hid (below_step A7_8.out hB)
        have A8_9 := Lib.hid (below_step A8_8.out hB)
        have HB9 := Lib.hid (below_step HB8.out hB)
        have HQ := Lib.hid hq
        clear hq
        clear hB
        have A9_9 := Lib.hid (Below.refl w9.heap.size w9)
        go_wp2_with fail
        refine (sameSum_any (txtTm tw) M HNMT.out ap (some ⟨gt, 0, none⟩) cp ct w9 (by omega) (HP.out.below A8_9.out) (TermL.o (HT.out.below A5_9.out))).mono ?_
        rintro e w10 ⟨rfl, hB⟩
        have A1_10 := Lib.hid (below_step A1_9.out hB)
        have A2_10 := Lib.hid (below_step A2_9.out hB)
        have A3_10 := Lib.hid (below_step A3_9.out hB)
        have A5_10 := Lib.hid (below_step A5_9.out hB)
        have A6_10 := Lib.hid (below_step A6_9.out hB)
        have A7_10 := Lib.hid (below_step A7_9.out hB)
        have A8_10 := Lib.hid (below_step A8_9.out hB)
        have A9_10 := Lib.hid (below_step A9_9.out hB)
        have HB10 := Lib.hid (below_step HB9.out hB)
        clear hB
        go_wp2_with fail
        refine (sameSum_any (txtTm tw) M HNMT.out aq (some ⟨gt, 0, none⟩) cq ct w10 (by omega) (HQ.out.below A9_10.out) (TermL.o (HT.out.below A5_10.out))).mono ?_
        rintro e w11 ⟨rfl, hB⟩
        have A1_11 := Lib.hid (below_step A1_10.out hB)
        have A2_11 := Lib.hid (below_step A2_10.out hB)
        have A3_11 := Lib.hid (below_step A3_10.out hB)
        have A5_11 := Lib.hid (below_step A5_10.out hB)
        have A6_11 := Lib.hid (below_step A6_10.out hB)
        have A7_11 := Lib.hid (below_step A7_10.out hB)
        have A8_11 := Lib.hid (below_step A8_10.out hB)
        have A9_11 := Lib.hid (below_step A9_10.out hB)
        have HB11 := Lib.hid (below_step HB10.out hB)
        clear hB
        have hy0 : 0 < ys.length := by
          cases hy : ys with
          | nil => have := HL1.out (.inl hy); cases this
          | cons _ _ => simp
        have hzz0 : 0 < zs.length := by
          cases hy : zs with
          | nil => have := HL1.out (.inr hy); cases this
          | cons _ _ => simp
        obtain ⟨t, os', hg, htl, htn, hos⟩ := HL2.out hy0 hzz0
        obtain ⟨⟨ps, hps⟩, ⟨qs, hqs⟩⟩ := grfOf_sum HE.out
        have c1 := sum_pos hps 0 hy0
        have c2 := sum_pos hqs 0 hzz0
        obtain ⟨d0, d1⟩ := (HL.out.below A1_11.out) 0 hy0
        obtain ⟨f0, f1⟩ := (HL'.out.below A1_11.out) 0 hzz0
        have z1 := (HSM.out 0 hy0).1
        have z2 := (HSM'.out 0 hzz0).1
        obtain ⟨x0, hx0⟩ : ∃ x0, x0 = (ys[0]).1 := ⟨_, rfl⟩
        obtain ⟨x1, hx1⟩ : ∃ x1, x1 = (zs[0]).1 := ⟨_, rfl⟩
        obtain ⟨s0, hs0⟩ : ∃ s0, s0 = (ys[0]).2 := ⟨_, rfl⟩
        obtain ⟨s1, hs1⟩ : ∃ s1, s1 = (zs[0]).2 := ⟨_, rfl⟩
        rw [← hx0] at c1 d0
        rw [← hx1] at c2 f0
        rw [← hs0] at d1 hg z1
        rw [← hs1] at f1 hg z2
        rw [← hx0, ← hx1] at hos
        have HOS := Lib.hid hos
        have HG : Hid (graftV (graftOf s0.data.toList z s1.data.toList) = .tuple #[.string ⟨t.text.toArray⟩, .bool true]) := Lib.hid (by rw [hg]; exact doneV_yes (by simp [small]; omega))
        have hn1 : ¬ n = 0 := by have := HNY.out; omega
        have hn2 : ¬ n' = 0 := by have := HNY'.out; omega
        have hn3 : 0 < n := by omega
        have hn4 : 0 < n' := by omega
        have q1 : ((n : Int) == 0) = false := by simp; omega
        have q2 : ((n' : Int) == 0) = false := by simp; omega
        simp only [Nat.zero_mul, Nat.zero_add] at d0 d1 f0 f1
        obtain ⟨hos1, _⟩ := (List.cons.injEq _ _ _ _).mp HOS.out
        obtain ⟨ox0, ox1⟩ := (HX.out.below A2_11.out) 0 (by simp [txtTm])
        have HO1 : Hid (((txtTm (o1 :: os1))[0]'(by simp [txtTm])) = (x0 * x1 % 101, (⟨t.text.toArray⟩ : ByteArray))) := Lib.hid (by simp [txtTm, hos1])
        rw [HO1.out] at ox0 ox1
        simp only [Nat.zero_mul, Nat.zero_add] at ox0 ox1
        have hp1 : 1 ≤ x0 * x1 := by have := Int.mul_le_mul c1.1 c2.1 (by omega) (by omega); omega
        have hp2 : x0 * x1 ≤ 10000 := by have := Int.mul_le_mul c1.2 c2.2 (by omega) (by omega); omega
        have q3 : IntKind.i64.wrap (x0 * x1) = x0 * x1 := by rw [IntKind.wrap_i64]; omega
        obtain ⟨xp, hxp⟩ : ∃ xp, xp = x0 * x1 % 101 := ⟨_, rfl⟩
        have q4 : (x0 * x1).tmod 101 = xp := by rw [Int.tmod_eq_emod_of_nonneg (by omega), hxp]
        obtain ⟨tt, htt⟩ : ∃ tt : ByteArray, tt = ⟨t.text.toArray⟩ := ⟨_, rfl⟩
        rw [← htt] at ox1 HG
        rw [← hxp] at ox0
        have q5 : decide (0 < N) = true := decide_eq_true (by have := HNO.out; simp at this; omega)
        have q6 : decide ((0 : Int) < (N : Int)) = true := decide_eq_true (by have := HNO.out; simp at this; omega)
        have q7 : 0 < N := by have := HNO.out; simp at this; omega
        have q8 : x0 * x1 % 101 = xp := hxp.symm
        have q9 : (tt.toList == tt.toList) = true := by simp
        have q10 : (xp == xp) = true := by simp
        clear hos1 hxp htt
        clear hg hos hps hqs hx0 hx1 hs0 hs1 hy0 hzz0 htl htn
        go_wp2_with fail
        refine wp_region_held_drew (S := (fun w' => w'.cell? ⟨g, 1, none⟩ = some (.string s0) ∧ w'.cell? ⟨g', 1, none⟩ = some (.string s1))) (by kernel_rfl) (by exact ⟨d1, f1⟩) (fun hHeld => ?_)
        refine wpAnyH_take (i := 0) (oi := { dst := some 137, op := Op.move (Operand.tmp 3), type := 23, pos := "laws.go:522", after := #[], guard := none }) (v := ?_) rfl (by kernel_rfl) (by kernel_rfl) (by kernel_rfl) (fun _ _ _ h => h) (Or.inl ⟨by rfl, ?_⟩) (by assumption) ?_
        rotate_left
        · (intro w hSw; (try dsimp only at hSw); go_simp <;> with_reducible rfl)
        (try simp only [Act.put, List.setIfInBounds_toArray, List.set_cons_zero, List.set_cons_succ])
        refine wpAnyH_take (i := 1) (oi := { dst := some 138, op := Op.indexAddr 23 (Operand.tmp 137) (Operand.const (Value.int IntKind.i64 0)), type := 0, pos := "laws.go:522", after := #[{ on := 0, ground := Ground.data }], guard := none }) (v := ?_) rfl (by kernel_rfl) (by kernel_rfl) (by kernel_rfl) (fun _ _ _ h => h) (Or.inl ⟨by rfl, ?_⟩) (by assumption) ?_
        rotate_left
        · (intro w hSw; (try dsimp only at hSw); go_simp <;> with_reducible rfl)
        (try simp only [Act.put, List.setIfInBounds_toArray, List.set_cons_zero, List.set_cons_succ])
        refine wpAnyH_take (i := 2) (oi := { dst := some 139, op := Op.fieldAddr 33 (Operand.tmp 138) 1, type := 0, pos := "laws.go:522", after := #[{ on := 1, ground := Ground.data }], guard := none }) (v := ?_) rfl (by kernel_rfl) (by kernel_rfl) (by kernel_rfl) (fun _ _ _ h => h) (Or.inl ⟨by rfl, ?_⟩) (by assumption) ?_
        rotate_left
        · (intro w hSw; (try dsimp only at hSw); go_simp <;> with_reducible rfl)
        (try simp only [Act.put, List.setIfInBounds_toArray, List.set_cons_zero, List.set_cons_succ])
        refine wpAnyH_take (i := 3) (oi := { dst := some 140, op := Op.load 9 (Operand.tmp 139), type := 9, pos := "laws.go:522", after := #[{ on := 2, ground := Ground.data }], guard := none }) (v := ?_) rfl (by kernel_rfl) (by kernel_rfl) (by kernel_rfl) (fun _ _ _ h => h) (Or.inl ⟨by rfl, ?_⟩) (by assumption) ?_
        rotate_left
        · (intro w hSw; (try dsimp only at hSw); go_simp <;> with_reducible rfl)
        (try simp only [Act.put, List.setIfInBounds_toArray, List.set_cons_zero, List.set_cons_succ])
        refine wpAnyH_take (i := 4) (oi := { dst := some 141, op := Op.move (Operand.tmp 4), type := 3, pos := "laws.go:522", after := #[], guard := none }) (v := ?_) rfl (by kernel_rfl) (by kernel_rfl) (by kernel_rfl) (fun _ _ _ h => h) (Or.inl ⟨by rfl, ?_⟩) (by assumption) ?_
        rotate_left
        · (intro w hSw; (try dsimp only at hSw); go_simp <;> with_reducible rfl)
        (try simp only [Act.put, List.setIfInBounds_toArray, List.set_cons_zero, List.set_cons_succ])
        refine wpAnyH_take (i := 5) (oi := { dst := some 142, op := Op.move (Operand.tmp 5), type := 23, pos := "laws.go:522", after := #[], guard := none }) (v := ?_) rfl (by kernel_rfl) (by kernel_rfl) (by kernel_rfl) (fun _ _ _ h => h) (Or.inl ⟨by rfl, ?_⟩) (by assumption) ?_
        rotate_left
        · (intro w hSw; (try dsimp only at hSw); go_simp <;> with_reducible rfl)
        (try simp only [Act.put, List.setIfInBounds_toArray, List.set_cons_zero, List.set_cons_succ])
        refine wpAnyH_take (i := 6) (oi := { dst := some 143, op := Op.indexAddr 23 (Operand.tmp 142) (Operand.const (Value.int IntKind.i64 0)), type := 0, pos := "laws.go:522", after := #[{ on := 5, ground := Ground.data }], guard := none }) (v := ?_) rfl (by kernel_rfl) (by kernel_rfl) (by kernel_rfl) (fun _ _ _ h => h) (Or.inl ⟨by rfl, ?_⟩) (by assumption) ?_
        rotate_left
        · (intro w hSw; (try dsimp only at hSw); go_simp <;> with_reducible rfl)
        (try simp only [Act.put, List.setIfInBounds_toArray, List.set_cons_zero, List.set_cons_succ])
        refine wpAnyH_take (i := 7) (oi := { dst := some 144, op := Op.fieldAddr 33 (Operand.tmp 143) 1, type := 0, pos := "laws.go:522", after := #[{ on := 6, ground := Ground.data }], guard := none }) (v := ?_) rfl (by kernel_rfl) (by kernel_rfl) (by kernel_rfl) (fun _ _ _ h => h) (Or.inl ⟨by rfl, ?_⟩) (by assumption) ?_
        rotate_left
        · (intro w hSw; (try dsimp only at hSw); go_simp <;> with_reducible rfl)
        (try simp only [Act.put, List.setIfInBounds_toArray, List.set_cons_zero, List.set_cons_succ])
        refine wpAnyH_take (i := 8) (oi := { dst := some 145, op := Op.load 9 (Operand.tmp 144), type := 9, pos := "laws.go:522", after := #[{ on := 7, ground := Ground.data }], guard := none }) (v := ?_) rfl (by kernel_rfl) (by kernel_rfl) (by kernel_rfl) (fun _ _ _ h => h) (Or.inl ⟨by rfl, ?_⟩) (by assumption) ?_
        rotate_left
        · (intro w hSw; (try dsimp only at hSw); go_simp <;> with_reducible rfl)
        (try simp only [Act.put, List.setIfInBounds_toArray, List.set_cons_zero, List.set_cons_succ])
        refine wpAnyH_ready (rs := [9]) (by kernel_rfl) (by simp) ?_
        refine AllReadyH.cons (o := { dst := some 146, op := Op.call { callee := Callee.value (Operand.func 9), args := #[Operand.tmp 140, Operand.tmp 141, Operand.tmp 145], argTypes := #[9, 3, 9] }, type := 30, pos := "laws.go:522", after := #[{ on := 3, ground := Ground.data }, { on := 4, ground := Ground.data }, { on := 8, ground := Ground.data }], guard := none }) rfl (fun K hK => ?_) AllReadyH.nil
        go_simp
        go_wp2_with fail
        refine ((iGraft_any s0 z s1 _ (by omega) (by omega)).mono fun _ _ h => Ans.is h HG.out).mono ?_
        rintro e w12 ⟨rfl, hB12⟩
        have hb12 : Below w11.heap.size w11 w12 := (Below.refl _ _).drew.trans hB12
        have B12 := Lib.hid hb12
        have d0' := keep1 hb12 d0
        have d1' := keep1 hb12 d1
        have f0' := keep1 hb12 f0
        have f1' := keep1 hb12 f1
        have ox0' := keep1 hb12 ox0
        have ox1' := keep1 hb12 ox1
        clear hB12 hb12
        go_wp2_with fail
        refine hK.out _ _ ?_ (fun hHeld => ?_)
        · exact ⟨d1', f1'⟩
        clear hK K
        (try simp only [Act.put, List.setIfInBounds_toArray, List.set_cons_zero, List.set_cons_succ])
        refine wpAnyH_take (i := 10) (oi := { dst := some 136, op := Op.move (Operand.tmp 146), type := 30, pos := "laws.go:522", after := #[{ on := 9, ground := Ground.data }], guard := none }) (v := ?_) rfl (by kernel_rfl) (by kernel_rfl) (by kernel_rfl) (fun _ _ _ h => h) (Or.inl ⟨by rfl, ?_⟩) (by assumption) ?_
        rotate_left
        · (intro w hSw; (try dsimp only at hSw); go_simp <;> with_reducible rfl)
        (try simp only [Act.put, List.setIfInBounds_toArray, List.set_cons_zero, List.set_cons_succ])
        refine wpAnyH_take (i := 11) (oi := { dst := some 147, op := Op.extract (Operand.tmp 136) 0, type := 9, pos := "laws.go:522", after := #[{ on := 10, ground := Ground.data }], guard := none }) (v := ?_) rfl (by kernel_rfl) (by kernel_rfl) (by kernel_rfl) (fun _ _ _ h => h) (Or.inl ⟨by rfl, ?_⟩) (by assumption) ?_
        rotate_left
        · (intro w hSw; (try dsimp only at hSw); go_simp <;> with_reducible rfl)
        (try simp only [Act.put, List.setIfInBounds_toArray, List.set_cons_zero, List.set_cons_succ])
        refine wpAnyH_take (i := 12) (oi := { dst := some 148, op := Op.extract (Operand.tmp 136) 1, type := 4, pos := "laws.go:522", after := #[{ on := 10, ground := Ground.data }, { on := 13, ground := Ground.gcOnly Departure.lateStores }], guard := none }) (v := ?_) rfl (by kernel_rfl) (by kernel_rfl) (by kernel_rfl) (fun _ _ _ h => h) (Or.inl ⟨by rfl, ?_⟩) (by assumption) ?_
        rotate_left
        · (intro w hSw; (try dsimp only at hSw); go_simp <;> with_reducible rfl)
        (try simp only [Act.put, List.setIfInBounds_toArray, List.set_cons_zero, List.set_cons_succ])
        refine wpAnyH_take (i := 13) (oi := { dst := some 20, op := Op.assign (Operand.tmp 147), type := 9, pos := "laws.go:522", after := #[{ on := 11, ground := Ground.data }, { on := 9, ground := Ground.chain }, { on := 0, ground := Ground.phase }, { on := 1, ground := Ground.phase }, { on := 2, ground := Ground.phase }, { on := 3, ground := Ground.phase }, { on := 4, ground := Ground.phase }, { on := 5, ground := Ground.phase }, { on := 6, ground := Ground.phase }, { on := 7, ground := Ground.phase }, { on := 8, ground := Ground.phase }, { on := 9, ground := Ground.phase }, { on := 10, ground := Ground.phase }, { on := 11, ground := Ground.phase }, { on := 12, ground := Ground.textOnly Departure.lateStores }], guard := none }) (v := ?_) rfl (by kernel_rfl) (by kernel_rfl) (by kernel_rfl) (fun _ _ _ h => h) (Or.inl ⟨by rfl, ?_⟩) (by assumption) ?_
        rotate_left
        · (intro w hSw; (try dsimp only at hSw); go_simp <;> with_reducible rfl)
        (try simp only [Act.put, List.setIfInBounds_toArray, List.set_cons_zero, List.set_cons_succ])
        refine wpAnyH_take (i := 14) (oi := { dst := some 21, op := Op.assign (Operand.tmp 148), type := 4, pos := "laws.go:522", after := #[{ on := 12, ground := Ground.data }, { on := 13, ground := Ground.chain }, { on := 0, ground := Ground.phase }, { on := 1, ground := Ground.phase }, { on := 2, ground := Ground.phase }, { on := 3, ground := Ground.phase }, { on := 4, ground := Ground.phase }, { on := 5, ground := Ground.phase }, { on := 6, ground := Ground.phase }, { on := 7, ground := Ground.phase }, { on := 8, ground := Ground.phase }, { on := 9, ground := Ground.phase }, { on := 10, ground := Ground.phase }, { on := 11, ground := Ground.phase }, { on := 12, ground := Ground.phase }, { on := 13, ground := Ground.phase }], guard := none }) (v := ?_) rfl (by kernel_rfl) (by kernel_rfl) (by kernel_rfl) (fun _ _ _ h => h) (Or.inl ⟨by rfl, ?_⟩) (by assumption) ?_
        rotate_left
        · (intro w hSw; (try dsimp only at hSw); go_simp <;> with_reducible rfl)
        (try simp only [Act.put, List.setIfInBounds_toArray, List.set_cons_zero, List.set_cons_succ])
        refine wpAnyH_done (by kernel_rfl) ?_ _
        all_goals
          go_wp2_with fail
          go_quiet (fail)
          go_wp2_with fail
          go_ret
          exact ⟨rfl, below_drewN (below_step HB11.out B12.out) _⟩
  · clear hl h8
    go_enter Tryz.func3, Tryz.ntmps3
    go_wp2_with fail
    go_ret
    exact ⟨rfl, Below.refl _ _⟩

end Go.Proofs.YtdjcgakmeebijaaGreat
end
