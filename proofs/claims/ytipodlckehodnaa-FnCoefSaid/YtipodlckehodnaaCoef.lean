/- The coefficient of a tree in a sum, by a binary search: SumCoef. -/
import Derived.Test.YtipodlckehodnaaKSumRJ
import Derived.Test.YtipodlckehodnaaSumX
import Derived.Deep.RegionHeld3
import Derived.Deep.QuietTactic
import Derived.BigQuiet
import Derived.Laws.EntriesVeiled
namespace Go.Proofs.Ytipodlckehodnaa
open Go.RowKit

theorem cf_at : ∀ {l : List Tm} (_h : l.Pairwise (fun p q => 0 < ordT p.2 q.2)) (k : Nat) (hk : k < l.length) (t : T), ordT (l[k]).2 t = 0 → cf l t = (l[k]).1
  | [], _, _, hk, _, _ => by simp at hk
  | p :: r, h, 0, _, t, h0 => by
    simp only [List.getElem_cons_zero] at h0 ⊢
    rw [cf, if_pos h0, cf_none]
    · omega
    · intro q hq e
      have h1 := (List.pairwise_cons.1 h).1 q hq
      have h2 := isCmp_ordT.zero h0 (show ordT t q.2 = 0 by have := isCmp_ordT.anti q.2 t; omega)
      omega
  | p :: r, h, k + 1, hk, t, h0 => by
    simp only [List.getElem_cons_succ] at h0 ⊢
    have hk' : k < r.length := by simpa using hk
    have h1 := (List.pairwise_cons.1 h).1 (r[k]) (List.getElem_mem hk')
    rw [cf, if_neg, cf_at (List.pairwise_cons.1 h).2 k hk' t h0]
    · omega
    · intro e
      have h2 := isCmp_ordT.zero e (show ordT t (r[k]).2 = 0 by have := isCmp_ordT.anti (r[k]).2 t; omega)
      omega

theorem desc_get {ps : List Tm} (h : ps.Pairwise (fun p q => 0 < ordT p.2 q.2)) (i j : Nat) (hi : i < ps.length) (hj : j < ps.length) (hij : i < j) : 0 < ordT (ps[i]).2 (ps[j]).2 := List.pairwise_iff_getElem.1 h i j hi hj hij

set_option maxRecDepth 100000 in
set_option maxHeartbeats 1000000 in
theorem coefCmp_any (t u : T) (P : Nat → Prop) (c : Int) (x y z x' y' z' : Value) (cb : Nat) (w : World) (hl : t.leaves ≤ 1000) (hul : u.leaves ≤ 1000) (hr : RkI w P t x y z) (hru : RkI w P u x' y' z') (hc : w.cell? ⟨cb, 0, none⟩ = some (.func (.func 57) #[] #[])) (htw : t.wf) (huw : u.wf) :
    Calls Try.prog 106 #[.agg #[.int .i64 c, x, y, z], .agg #[x', y', z'], .pointer (some ⟨cb, 0, none⟩)] w (AnsG (.int .i64 (ordT u t)) w) := by
  have HD := Lib.hid (fun (W : World) (hb : Below w.heap.size w W) => descending_grew t u P x y z x' y' z' W hl hul (hr.below htw hb) (hru.below huw hb))
  have hr2 := hr
  have hru2 := hru
  obtain ⟨ty, a, g, wc, rfl, rfl, rfl, _⟩ := hr2
  obtain ⟨ty', a', g', wc', rfl, rfl, rfl, _⟩ := hru2
  obtain ⟨pl, hpl⟩ : ∃ pl, pl = (t.paths []).length := ⟨_, rfl⟩
  obtain ⟨tx, htx⟩ : ∃ tx, tx = t.text.toArray := ⟨_, rfl⟩
  obtain ⟨pl', hpl'⟩ : ∃ pl, pl = (u.paths []).length := ⟨_, rfl⟩
  obtain ⟨tx', htx'⟩ : ∃ tx, tx = u.text.toArray := ⟨_, rfl⟩
  rw [← hpl, ← htx, ← hpl', ← htx'] at HD
  rw [← hpl, ← htx, ← hpl', ← htx']
  have hcl := World.block_lt_of_cell? w _ hc
  clear hr hru hpl htx hpl' htx'
  go_enter Try.func106, Try.ntmps106
  go_wp2_with fail
  refine (HD.out _ (((Below.refl _ _).alloc (Nat.le_refl _) _).alloc (by simp) _)).mono ?_
  rintro e w1 ⟨rfl, hG⟩
  go_wp2_with fail
  go_ret
  exact ⟨rfl, (((Grew.refl w).alloc _).alloc _).trans hG⟩

/-- What the search answers. -/
def FoundPost (ps : List Tm) (t : T) (w : World) (e : Ending) (w' : World) : Prop :=
  Grew w w' ∧ ∃ (i : Nat) (f : Bool), e = .returned (.tuple #[.int .i64 i, .bool f]) ∧ i ≤ ps.length ∧ (f = true → ∃ h : i < ps.length, ordT (ps[i]).2 t = 0) ∧ (f = false → ∀ m (h : m < ps.length), ordT (ps[m]).2 t ≠ 0)

set_option maxRecDepth 100000 in
set_option maxHeartbeats 2000000 in
theorem search_any (ps : List Tm) (t : T) (P : Nat → Prop) (n : Nat) (hn : n = ps.length) (g cap cb : Nat) (x y z : Value) (w : World) (hn2 : n ≤ 1000) (hd : ps.Pairwise (fun p q => 0 < ordT p.2 q.2)) (hps : ∀ p ∈ ps, p.2.wf ∧ p.2.leaves ≤ 1000) (htw : t.wf) (htl : t.leaves ≤ 1000)
    (hr : Rd tmI w (fun _ => True) (some ⟨g, 0, none⟩) ps) (hrt : RkI w P t x y z) (hc : w.cell? ⟨cb, 0, none⟩ = some (.func (.func 57) #[] #[])) :
    Calls Try.prog 105 #[.slice (some ⟨g, 0, none⟩) n cap, .agg #[x, y, z], .func (.func 106) #[] #[.pointer (some ⟨cb, 0, none⟩)]] w (FoundPost ps t w) := by
  have HN := Lib.hid hn
  have HD := Lib.hid hd
  have HPS := Lib.hid hps
  have HR := Lib.hid hr
  have HRT := Lib.hid hrt
  have HC := Lib.hid hc
  obtain ⟨ty, a, gw, wc, rfl, rfl, rfl, _⟩ := hrt
  obtain ⟨pl, hpl⟩ : ∃ pl, pl = (t.paths []).length := ⟨_, rfl⟩
  obtain ⟨tx, htx⟩ : ∃ tx, tx = t.text.toArray := ⟨_, rfl⟩
  rw [← hpl, ← htx] at HRT
  rw [← hpl, ← htx]
  clear hn hd hps hr hc hpl htx
  go_enter Try.func105, Try.ntmps105
  go_wp2_with fail
  obtain ⟨w0, hw0⟩ : ∃ w0, w0 = w.alloc (.cells #[.iface ty (.pointer (some a)), .slice (some ⟨gw, 0, none⟩) pl wc, .string ⟨tx⟩] 81 (0, 0)) := ⟨_, rfl⟩
  have HG0 : Hid (Grew w w0) := Lib.hid (by rw [hw0]; exact Grew.new w _)
  have hF : w0.heap[w.heap.size]? = some (.cells #[.iface ty (.pointer (some a)), .slice (some ⟨gw, 0, none⟩) pl wc, .string ⟨tx⟩] 81 (0, 0)) := by rw [hw0]; exact heap_alloc_new w _
  have HF := Lib.hid hF
  rw [← hw0]
  clear hw0 hF
  go_loopw [9, 10] (fun iv jv wr => ∃ (i j : Nat), i ≤ j ∧ j ≤ n ∧ iv = .int .i64 i ∧ jv = .int .i64 j ∧ (∀ m (h : m < ps.length), m < i → 0 < ordT (ps[m]).2 t) ∧ (∀ m (h : m < ps.length), j ≤ m → ordT (ps[m]).2 t ≤ 0) ∧ Grew w0 wr) (fun iv jv _ => (intOf jv).toNat - (intOf iv).toNat)
  case atStart => exact ⟨0, n, Nat.zero_le _, Nat.le_refl _, rfl, rfl, fun m h h0 => by omega, fun m h h0 => by have := HN.out; omega, Grew.refl _⟩
  case round =>
    obtain ⟨i, j, hij, hjn, rfl, rfl, hlo, hhi, hG⟩ := hrel
    have HLO := Lib.hid hlo
    have HHI := Lib.hid hhi
    have HG := Lib.hid hG
    have HBG := Lib.hid (HG0.out.trans hG).below
    have hF := (hG.below.block _ ((Array.getElem?_eq_some_iff.1 HF.out).1)).trans HF.out
    have q0 : wr.cell? ⟨w.heap.size, 0, none⟩ = some (.iface ty (.pointer (some a))) := by rw [Lib.cell_of_heap hF]; rfl
    have q1 : wr.cell? ⟨w.heap.size, 1, none⟩ = some (.slice (some ⟨gw, 0, none⟩) pl wc) := by rw [Lib.cell_of_heap hF]; rfl
    have q2 : wr.cell? ⟨w.heap.size, 2, none⟩ = some (.string ⟨tx⟩) := by rw [Lib.cell_of_heap hF]; rfl
    have w1 : IntKind.i64.wrap ((i : Int) + (j : Int)) = ((i + j : Nat) : Int) := by rw [IntKind.wrap_i64]; omega
    clear hlo hhi hG hF
    by_cases hlt : i < j
    · obtain ⟨H, hH⟩ : ∃ H : Nat, ((i : Int) + (j : Int)) / 2 = (H : Int) := ⟨(((i : Int) + (j : Int)) / 2).toNat, by omega⟩
      have hiH : i ≤ H := by omega
      have hHj : H < j := by omega
      have hHn : (H : Int) < (n : Int) := by omega
      have hH0 : (0 : Int) ≤ (H : Int) := by omega
      have hhl : H < ps.length := by have := HN.out; omega
      obtain ⟨g', x0, y0, z0, e, _, c0, c1, c2, c3, hwp, hrk⟩ := tmI.get (HR.out.below (by decide) HBG.out) H hhl
      cases e
      have hqp := HPS.out (ps[H]) (List.getElem_mem hhl)
      obtain ⟨tp, ap, gp, wp, rfl, rfl, rfl, _⟩ := id hrk
      obtain ⟨pt, hpt⟩ : ∃ pt, pt = (ps[H]).2 := ⟨_, rfl⟩
      obtain ⟨c, hc⟩ : ∃ c, c = (ps[H]).1 := ⟨_, rfl⟩
      rw [← hpt] at c2 c3 hwp hrk hqp
      rw [← hc] at c0
      have HPT := Lib.hid hpt
      obtain ⟨zv, hzv⟩ : ∃ zv, zv = ordT t pt := ⟨_, rfl⟩
      have HZV := Lib.hid hzv
      have HCMP := Lib.hid (fun (W : World) (hb : Below wr.heap.size wr W) => coefCmp_any pt t (fun _ => True) c _ _ _ _ _ _ cb W hqp.2 htl (hrk.below hwp hb) ((HRT.out.keep (P' := fun _ => True) htw (fun _ _ _ h => h) (fun _ _ _ => trivial)).below htw (below_step HBG.out hb)) (keep1 (below_step HBG.out hb) HC.out) hwp htw)
      rw [← hzv] at HCMP
      obtain ⟨pp, hpp⟩ : ∃ pp, pp = (pt.paths []).length := ⟨_, rfl⟩
      obtain ⟨xp, hxp⟩ : ∃ xp, xp = pt.text.toArray := ⟨_, rfl⟩
      rw [← hpp] at c2 HCMP
      rw [← hxp] at c3 HCMP
      clear hrk hqp hpt hc hzv hpp hxp hwp
      have HHH := Lib.hid hH
      clear hH
      go_wp2_with fail
      rw [HHH.out]
      go_region_held3 (fun w' => w'.cell? ⟨g, H * 4, none⟩ = some (.int .i64 c) ∧ w'.cell? ⟨g, H * 4 + 1, none⟩ = some (.iface tp (.pointer (some ap))) ∧ w'.cell? ⟨g, H * 4 + 2, none⟩ = some (.slice (some ⟨gp, 0, none⟩) pp wp) ∧ w'.cell? ⟨g, H * 4 + 3, none⟩ = some (.string ⟨xp⟩) ∧ w'.cell? ⟨w.heap.size, 0, none⟩ = some (.iface ty (.pointer (some a))) ∧ w'.cell? ⟨w.heap.size, 1, none⟩ = some (.slice (some ⟨gw, 0, none⟩) pl wc) ∧ w'.cell? ⟨w.heap.size, 2, none⟩ = some (.string ⟨tx⟩))
        (first | exact ⟨c0, c1, c2, c3, q0, q1, q2⟩ | exact ⟨v0, v1, v2, v3, v4, v5, v6⟩)
        (first
        | (go_at_call 106; refine (HCMP.out _ (Below.refl _ _).drew).mono ?_; rintro e w2 ⟨rfl, hg2⟩; have hG2 : Grew wr w2 := ((Grew.refl wr).drew).trans hg2; have hb2 := hG2.below; have v0 := keep1 hb2 c0; have v1 := keep1 hb2 c1; have v2 := keep1 hb2 c2; have v3 := keep1 hb2 c3; have v4 := keep1 hb2 q0; have v5 := keep1 hb2 q1; have v6 := keep1 hb2 q2))
      all_goals
        have HG2 := Lib.hid (HG.out.trans hG2)
        clear hb2 hg2 hG2
        by_cases hz : zv < 0
        · have e1 : decide (zv < 0) = true := decide_eq_true hz
          have HX : Hid (∀ m (h : m < ps.length), m < H + 1 → 0 < ordT (ps[m]).2 t) := Lib.hid (fun m hm hlt2 => by
            have h1 : 0 < ordT (ps[H]).2 t := by have h2 := isCmp_ordT.anti t (ps[H]).2; rw [← HPT.out, ← HZV.out] at h2; rw [← HPT.out]; omega
            by_cases h3 : m = H
            · subst h3; exact h1
            · exact isCmp_ordT.gt_ge (desc_get HD.out m H hm hhl (by omega)) (by omega))
          have w2' : IntKind.i64.wrap ((H : Int) + 1) = (H : Int) + 1 := by rw [IntKind.wrap_i64]; omega
          go_wp2_with fail
          go_roundw
          case rel => exact ⟨H + 1, j, by omega, hjn, by go_num, rfl, HX.out, HHI.out, HG2.out⟩
          case measure => simp [intOf]; omega
        · have e1 : decide (zv < 0) = false := decide_eq_false hz
          have HX : Hid (∀ m (h : m < ps.length), H ≤ m → ordT (ps[m]).2 t ≤ 0) := Lib.hid (fun m hm hlt2 => by
            have h1 : 0 ≤ ordT t (ps[H]).2 := by rw [← HPT.out, ← HZV.out]; omega
            by_cases h3 : m = H
            · subst h3; have h2 := isCmp_ordT.anti t (ps[m]).2; omega
            · have h4 := isCmp_ordT.ge_gt h1 (desc_get HD.out H m hhl hm (by omega))
              have h5 := isCmp_ordT.anti t (ps[m]).2
              omega)
          go_wp2_with fail
          go_roundw
          case rel => exact ⟨i, H, hiH, by omega, rfl, rfl, HLO.out, HX.out, HG2.out⟩
          case measure => simp [intOf]; omega
    · have hij2 : i = j := by omega
      subst hij2
      by_cases hin : i < n
      · have hhl0 : i < ps.length := by have := HN.out; omega
        obtain ⟨H, hHi⟩ : ∃ H, H = i := ⟨_, rfl⟩
        subst hHi
        have hhl := hhl0
        clear hhl0
        obtain ⟨g', x0, y0, z0, e, _, c0, c1, c2, c3, hwp, hrk⟩ := tmI.get (HR.out.below (by decide) HBG.out) H hhl
        cases e
        have hqp := HPS.out (ps[H]) (List.getElem_mem hhl)
        obtain ⟨tp, ap, gp, wp, rfl, rfl, rfl, _⟩ := id hrk
        obtain ⟨pt, hpt⟩ : ∃ pt, pt = (ps[H]).2 := ⟨_, rfl⟩
        obtain ⟨c, hc⟩ : ∃ c, c = (ps[H]).1 := ⟨_, rfl⟩
        rw [← hpt] at c2 c3 hwp hrk hqp
        rw [← hc] at c0
        have HPT := Lib.hid hpt
        obtain ⟨zv, hzv⟩ : ∃ zv, zv = ordT t pt := ⟨_, rfl⟩
        have HZV := Lib.hid hzv
        have HCMP := Lib.hid (fun (W : World) (hb : Below wr.heap.size wr W) => coefCmp_any pt t (fun _ => True) c _ _ _ _ _ _ cb W hqp.2 htl (hrk.below hwp hb) ((HRT.out.keep (P' := fun _ => True) htw (fun _ _ _ h => h) (fun _ _ _ => trivial)).below htw (below_step HBG.out hb)) (keep1 (below_step HBG.out hb) HC.out) hwp htw)
        rw [← hzv] at HCMP
        obtain ⟨pp, hpp⟩ : ∃ pp, pp = (pt.paths []).length := ⟨_, rfl⟩
        obtain ⟨xp, hxp⟩ : ∃ xp, xp = pt.text.toArray := ⟨_, rfl⟩
        rw [← hpp] at c2 HCMP
        rw [← hxp] at c3 HCMP
        clear hrk hqp hpt hc hzv hpp hxp hwp
        have HE : Hid (zv = 0 ↔ ordT (ps[H]).2 t = 0) := Lib.hid (by
          have h2 := isCmp_ordT.anti t (ps[H]).2
          rw [← HPT.out, ← HZV.out] at h2
          rw [← HPT.out]; omega)
        have HNF : Hid (ordT (ps[H]).2 t ≠ 0 → ∀ m (h : m < ps.length), ordT (ps[m]).2 t ≠ 0) := Lib.hid (fun hne m hm => by
          rcases Nat.lt_trichotomy m H with h | h | h
          · have := HLO.out m hm h; omega
          · subst h; exact hne
          · have h1 := HHI.out H hhl (Nat.le_refl _)
            have h2 := desc_get HD.out H m hhl hm h
            have h3 := isCmp_ordT.anti (ps[H]).2 t
            have h4 := isCmp_ordT.gt_ge (a := t) (b := (ps[H]).2) (d := (ps[m]).2) (by omega) (by omega)
            have h5 := isCmp_ordT.anti t (ps[m]).2
            omega)
        go_wp2_with fail
        go_region_held3 (fun w' => w'.cell? ⟨g, H * 4, none⟩ = some (.int .i64 c) ∧ w'.cell? ⟨g, H * 4 + 1, none⟩ = some (.iface tp (.pointer (some ap))) ∧ w'.cell? ⟨g, H * 4 + 2, none⟩ = some (.slice (some ⟨gp, 0, none⟩) pp wp) ∧ w'.cell? ⟨g, H * 4 + 3, none⟩ = some (.string ⟨xp⟩) ∧ w'.cell? ⟨w.heap.size, 0, none⟩ = some (.iface ty (.pointer (some a))) ∧ w'.cell? ⟨w.heap.size, 1, none⟩ = some (.slice (some ⟨gw, 0, none⟩) pl wc) ∧ w'.cell? ⟨w.heap.size, 2, none⟩ = some (.string ⟨tx⟩))
          (first | exact ⟨c0, c1, c2, c3, q0, q1, q2⟩ | exact ⟨v0, v1, v2, v3, v4, v5, v6⟩)
          (first
          | (go_at_call 106; refine (HCMP.out _ (Below.refl _ _).drew).mono ?_; rintro e w2 ⟨rfl, hg2⟩; have hG2 : Grew wr w2 := ((Grew.refl wr).drew).trans hg2; have hb2 := hG2.below; have v0 := keep1 hb2 c0; have v1 := keep1 hb2 c1; have v2 := keep1 hb2 c2; have v3 := keep1 hb2 c3; have v4 := keep1 hb2 q0; have v5 := keep1 hb2 q1; have v6 := keep1 hb2 q2))
        all_goals
          have HG2 := Lib.hid (HG0.out.trans (HG.out.trans hG2))
          clear hb2 hg2 hG2
          go_wp2_with fail
          go_ret2
          exact ⟨HG2.out, H, (zv == 0), rfl, by omega, fun h => ⟨hhl, HE.out.1 (by simpa using h)⟩, fun h => HNF.out (fun h2 => by
            have h3 := HE.out.2 h2
            rw [h3] at h; simp at h)⟩
      · have e1 : decide ((i : Int) < (n : Int)) = false := decide_eq_false (by omega)
        have e2 : decide (i < n) = false := decide_eq_false hin
        have HI : Hid (i = ps.length) := Lib.hid (by have := HN.out; omega)
        clear hin
        go_wp2_with fail
        go_quiet (fail)
        go_wp2_with fail
        go_ret2
        have hne : ∀ m (h : m < ps.length), ordT (ps[m]).2 t ≠ 0 := fun m hm => by
          have := HLO.out m hm (by have := HI.out; omega)
          omega
        exact ⟨(HG0.out.trans HG.out).drewN nq, i, false, rfl, by have := HI.out; omega, (fun h => by cases h), fun _ => hne⟩

set_option maxRecDepth 100000 in
set_option maxHeartbeats 1000000 in
theorem coefOf_any (ps : List Tm) (t : T) (n : Nat) (hn : n = ps.length) (g cap : Nat) (x y z : Value) (w : World) (hn2 : n ≤ 1000) (hd : ps.Pairwise (fun p q => 0 < ordT p.2 q.2)) (hps : ∀ p ∈ ps, p.2.wf ∧ p.2.leaves ≤ 1000) (htw : t.wf) (htl : t.leaves ≤ 1000)
    (hr : Rd tmI w (fun _ => True) (some ⟨g, 0, none⟩) ps) (hrt : RkI w (fun _ => True) t x y z) :
    Calls Try.prog 71 #[.agg #[.func (.func 57) #[] #[], .slice (some ⟨g, 0, none⟩) n cap], .agg #[x, y, z]] w (Ans (.int .i64 (cf ps t)) w) := by
  have HN := Lib.hid hn
  have HD := Lib.hid hd
  have HR := Lib.hid hr
  have HS := Lib.hid (fun (W : World) (hb : Below w.heap.size w W) (hc : W.cell? ⟨w.heap.size, 0, none⟩ = some (.func (.func 57) #[] #[])) => search_any ps t (fun _ => True) n hn g cap w.heap.size x y z W hn2 hd hps htw htl (hr.below (by decide) hb) (hrt.below htw hb) hc)
  obtain ⟨ty, a, gw, wc, rfl, rfl, rfl, _⟩ := hrt
  obtain ⟨pl, hpl⟩ : ∃ pl, pl = (t.paths []).length := ⟨_, rfl⟩
  obtain ⟨tx, htx⟩ : ∃ tx, tx = t.text.toArray := ⟨_, rfl⟩
  rw [← hpl, ← htx] at HS
  rw [← hpl, ← htx]
  clear hn hd hps hr hpl htx
  go_enter Try.func71, Try.ntmps71
  go_wp2_with fail
  have HB0 : Hid (Below w.heap.size w ((w.alloc (.cells #[.func (.func 57) #[] #[], .slice (some ⟨g, 0, none⟩) n cap] 65 (0, 0))).alloc (.cells #[.iface ty (.pointer (some a)), .slice (some ⟨gw, 0, none⟩) pl wc, .string ⟨tx⟩] 81 (0, 0)))) := Lib.hid (((Below.refl _ _).alloc (Nat.le_refl _) _).alloc (by simp) _)
  have hZ : ((w.alloc (.cells #[.func (.func 57) #[] #[], .slice (some ⟨g, 0, none⟩) n cap] 65 (0, 0))).alloc (.cells #[.iface ty (.pointer (some a)), .slice (some ⟨gw, 0, none⟩) pl wc, .string ⟨tx⟩] 81 (0, 0))).heap[w.heap.size]? = some (.cells #[.func (.func 57) #[] #[], .slice (some ⟨g, 0, none⟩) n cap] 65 (0, 0)) := by
    rw [Below.heap_alloc _ _ _ (by simp)]; exact heap_alloc_new w _
  have HZ := Lib.hid hZ
  obtain ⟨z0, z1, _, _⟩ := two_cells hZ
  clear hZ
  refine (HS.out _ HB0.out z0).mono ?_
  rintro e w1 ⟨hG, i, f, rfl, hi, hf1, hf2⟩
  have hb := hG.below
  obtain ⟨r0, r1, _, _⟩ := two_cells ((hb.block w.heap.size (by simp; omega)).trans HZ.out)
  have HB1 := Lib.hid (below_step HB0.out hb)
  cases f with
  | false =>
    have HV : Hid (cf ps t = 0) := Lib.hid (cf_none (fun p hp => by
      obtain ⟨k, hk, rfl⟩ := List.getElem_of_mem hp
      exact hf2 rfl k hk))
    clear hf1 hf2 hb hG z0 z1
    go_wp2_with fail
    go_ret
    exact ⟨by rw [HV.out]; rfl, HB1.out⟩
  | true =>
    obtain ⟨hik, h0⟩ := hf1 rfl
    have HV : Hid (cf ps t = (ps[i]).1) := Lib.hid (cf_at HD.out i hik t h0)
    obtain ⟨g', x0, y0, z0', e, _, c0, _, _, _, _, _⟩ := tmI.get (HR.out.below (by decide) HB1.out) i hik
    cases e
    obtain ⟨c, hc⟩ : ∃ c, c = (ps[i]).1 := ⟨_, rfl⟩
    rw [← hc] at c0 HV
    have hin : (i : Int) < (n : Int) := by have := HN.out; omega
    have hi0 : (0 : Int) ≤ (i : Int) := by omega
    clear hf1 hf2 hb hG z0 z1 h0 hc
    go_wp2_with fail
    go_ret
    exact ⟨by rw [HV.out]; rfl, HB1.out⟩

/-- What SumCoef answers. -/
def coefV (xs : List (Int × ByteArray)) (s : ByteArray) : Int :=
  match sumOf xs, parse s.data.toList with
  | some ps, some t => cf ps t
  | _, _ => -1
theorem coefV_no1 {xs : List (Int × ByteArray)} {s : ByteArray} (h : sumOf xs = none) : coefV xs s = -1 := by rw [coefV, h]
theorem coefV_no2 {xs : List (Int × ByteArray)} {s : ByteArray} (h : parse s.data.toList = none) : coefV xs s = -1 := by
  rw [coefV, h]; split
  · next h1 h2 => cases h2
  · rfl
theorem coefV_yes {xs : List (Int × ByteArray)} {s : ByteArray} {ps : List Tm} {t : T} (h : sumOf xs = some ps) (h2 : parse s.data.toList = some t) : coefV xs s = cf ps t := by rw [coefV, h, h2]

set_option maxRecDepth 100000 in
set_option maxHeartbeats 1000000 in
theorem iSumCoef_any (xs : List (Int × ByteArray)) (n : Nat) (hnx : n = xs.length) (g cap : Nat) (s : ByteArray) (w : World) (hn : n ≤ 1048576) (hz : ∀ j (h : j < xs.length), (xs[j]).2.size ≤ 1048576) (hs : s.size ≤ 1048576) (hl : TermL w g xs) :
    Calls Try.prog 27 #[.slice (some ⟨g, 0, none⟩) n cap, .string s] w (Ans (.int .i64 (coefV xs s)) w) := by
  have HR := Lib.hid (readSum_any xs n hnx g cap w hn hz hl)
  have HT := Lib.hid (fun (W : World) => readTree_any s W (by omega))
  clear hnx hz hl
  go_enter Try.func27, Try.ntmps27
  go_wp2_with fail
  refine HR.out.mono ?_
  rintro e w1 ⟨hB, ⟨hno, rfl⟩ | ⟨ps, gq, c, hyes, rfl, hrd⟩⟩
  · have HN := Lib.hid (coefV_no1 (s := s) hno)
    clear hno
    go_wp2_with fail
    go_ret
    exact ⟨by rw [HN.out]; rfl, hB.alloc hB.size _⟩
  · obtain ⟨h60, htr, hnf⟩ := sum_trees hyes
    have HY := Lib.hid hyes
    have HRD := Lib.hid hrd
    have HTR := Lib.hid htr
    have HNF := Lib.hid hnf
    have HB1 := Lib.hid hB
    clear hyes hrd htr hnf hB
    go_wp2_with fail
    refine (HT.out _).mono ?_
    rintro e w2 ⟨hB2, ⟨hno, rfl⟩ | ⟨t, ty, a, hyt, rfl, hrep⟩⟩
    · have HN := Lib.hid (coefV_no2 (xs := xs) hno)
      have HB2 := Lib.hid (below_step (HB1.out.alloc HB1.out.size _) hB2)
      clear hno hB2
      go_wp2_with fail
      go_ret
      exact ⟨by rw [HN.out]; rfl, HB2.out⟩
    · obtain ⟨hw, _, hlv, hnd⟩ := parse_some hyt
      have HV := Lib.hid (coefV_yes HY.out hyt)
      obtain ⟨c0, c1, _, _⟩ := two_cells ((hB2.block w1.heap.size (by simp)).trans (heap_alloc_new w1 (.cells #[.func (.func 57) #[] #[], .slice (some ⟨gq, 0, none⟩) ps.length c] 65 (0, 0))))
      have hB12 : Below w1.heap.size w1 w2 := below_step ((Below.refl w1.heap.size w1).alloc (Nat.le_refl _) (.cells #[.func (.func 57) #[] #[], .slice (some ⟨gq, 0, none⟩) ps.length c] 65 (0, 0))) hB2
      have HB2 := Lib.hid (below_step HB1.out hB12)
      have HRK := Lib.hid (fun (W : World) (hb : Below w2.heap.size w2 W) => rank_any t ty a W (fun _ => True) hw (by omega) (by omega) ((hrep.keep (P' := fun _ => True) (fun _ _ _ h => h) (fun _ _ _ => trivial) hw).below hw hb))
      have HCO := Lib.hid (fun (W : World) (hb : Below w2.heap.size w2 W) (x y z : Value) (hr : RkI W (fun _ => True) t x y z) => coefOf_any ps t ps.length rfl gq c x y z W (by omega) HNF.out.1 (fun p hp => by have h := HTR.out p hp; exact ⟨h.1, by omega⟩) hw (by omega) (HRD.out.below (by decide) (hB12.trans (hb.mono hB12.size))) hr)
      obtain ⟨cv, hcv⟩ : ∃ cv, cv = cf ps t := ⟨_, rfl⟩
      rw [← hcv] at HV HCO
      clear hyt hrep hB2 hB12 hcv
      go_wp2_with fail
      go_region_held3 (fun w' => w'.cell? ⟨w1.heap.size, 0, none⟩ = some (.func (.func 57) #[] #[]) ∧ w'.cell? ⟨w1.heap.size, 1, none⟩ = some (.slice (some ⟨gq, 0, none⟩) ps.length c))
        (first | exact ⟨c0, c1⟩ | exact ⟨d0, d1⟩ | exact ⟨e0, e1⟩)
        (first
        | (go_at_call 71; have hq := HRX.out; clear hq; refine (HCO.out _ HC3.out _ _ _ HRX.out).mono ?_; rintro e w4 ⟨rfl, hB4⟩; have e0 := keep1 hB4 d0; have e1 := keep1 hB4 d1; have HC4 := Lib.hid (HC3.out.trans (hB4.mono HC3.out.size)))
        | (go_at_call 72; refine (HRK.out _ (Below.refl _ _).drew).mono ?_; rintro e w3 ⟨hB3, x, y, z, rfl, hrx⟩; have hB3' : Below w2.heap.size w2 w3 := (Below.refl _ _).drew.trans hB3; have d0 := keep1 hB3' c0; have d1 := keep1 hB3' c1; have HC3 := Lib.hid hB3'; have HRX := Lib.hid (hrx.keep (P' := fun _ => True) hw (fun _ _ _ h => h) (fun _ _ _ => trivial)); clear hB3 hB3'))
      all_goals
        go_wp2_with fail
        go_ret
        exact ⟨by rw [HV.out]; rfl, below_step HB2.out HC4.out⟩
end Go.Proofs.Ytipodlckehodnaa
