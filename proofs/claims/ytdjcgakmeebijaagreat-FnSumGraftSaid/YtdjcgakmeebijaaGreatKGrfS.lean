/- Merged out of: XGrfM, XGrfS. -/
import Derived.Test.YtdjcgakmeebijaaGreatKBndX
import Derived.Test.YtdjcgakmeebijaaGreatKPatM
import Derived.Test.YtdjcgakmeebijaaGreatKSumOfS
import Derived.Test.YtdjcgakmeebijaaGreatLawGraft
import Derived.Deep.RegionHeld3
section
/- What SumGraft answers, plainly. No walk here. -/
namespace Go.Proofs.YtdjcgakmeebijaaGreat
open Go.RowKit

/-- One tree grafted at the leaf k of another one. -/
def grf (k : Nat) (t u : T) : T := t.fill (oneIn t.leaves k u)
def grfRow (k : Nat) (p : Tm) (qs : List Tm) : List Tm := qs.map fun q => (p.1 * q.1, grf k p.2 q.2)
def grfTm (k : Nat) (ps qs : List Tm) : List Tm := ps.flatMap fun p => grfRow k p qs

theorem grfTm_take (k : Nat) (ps qs : List Tm) {i : Nat} (h : i < ps.length) : grfTm k (ps.take (i + 1)) qs = grfTm k (ps.take i) qs ++ grfRow k ps[i] qs := by
  rw [List.take_succ_eq_append_getElem h, grfTm, List.flatMap_append]; simp [grfTm]
theorem grfRow_take (k : Nat) (p : Tm) (qs : List Tm) {j : Nat} (h : j < qs.length) : grfRow k p (qs.take (j + 1)) = grfRow k p (qs.take j) ++ [(p.1 * (qs[j]).1, grf k p.2 (qs[j]).2)] := by
  rw [List.take_succ_eq_append_getElem h, grfRow, List.map_append]; rfl
theorem grfRow_length (k : Nat) (p : Tm) (qs : List Tm) : (grfRow k p qs).length = qs.length := by simp [grfRow]
theorem grfTm_length (k : Nat) (ps qs : List Tm) : (grfTm k ps qs).length = ps.length * qs.length := by
  induction ps with
  | nil => simp [grfTm]
  | cons p ps ih =>
    have e : grfTm k (p :: ps) qs = grfRow k p qs ++ grfTm k ps qs := by simp [grfTm]
    rw [e, List.length_append, ih, grfRow_length, List.length_cons, Nat.succ_mul]; omega

theorem grf_wf {k : Nat} {t u : T} (ht : t.wf) (hu : u.wf) : (grf k t u).wf := fill_wf t _ ht (oneIn_wf hu)
theorem grf_size {k : Nat} {t u : T} (hk : k < t.leaves) (ht : t.leaves ≤ 12 ∧ t.nodes ≤ 16) (hu : u.leaves ≤ 12 ∧ u.nodes ≤ 16) : (grf k t u).leaves ≤ 30 ∧ (grf k t u).nodes ≤ 40 := by
  have := graft_count (t := t) (u := u) hk
  unfold grf; omega

theorem grfTm_ok {k : Nat} {ps qs : List Tm} (hp : ∀ p ∈ ps, p.2.wf ∧ p.2.leaves ≤ 12 ∧ p.2.nodes ≤ 16 ∧ 1 ≤ p.1 ∧ p.1 ≤ 100) (hk : ∀ p ∈ ps, k < p.2.leaves) (hq : ∀ p ∈ qs, p.2.wf ∧ p.2.leaves ≤ 12 ∧ p.2.nodes ≤ 16 ∧ 1 ≤ p.1 ∧ p.1 ≤ 100) :
    ∀ r ∈ grfTm k ps qs, r.2.wf ∧ r.2.leaves ≤ 1000 ∧ r.2.nodes ≤ 1000 ∧ -1000000 ≤ r.1 ∧ r.1 ≤ 1000000 := fun r hr => by
  obtain ⟨p, hpp, hr2⟩ := List.mem_flatMap.1 hr
  obtain ⟨q, hqq, rfl⟩ := List.mem_map.1 hr2
  have h1 := hp p hpp
  have h2 := hq q hqq
  have h3 := grf_size (hk p hpp) ⟨h1.2.1, h1.2.2.1⟩ ⟨h2.2.1, h2.2.2.1⟩
  have h4 := Int.mul_le_mul_of_nonneg_right h1.2.2.2.2 (show 0 ≤ q.1 by omega)
  have h5 := Int.mul_nonneg (show 0 ≤ p.1 by omega) (show 0 ≤ q.1 by omega)
  exact ⟨grf_wf h1.1 h2.1, by show (grf k p.2 q.2).leaves ≤ 1000; omega, by show (grf k p.2 q.2).nodes ≤ 1000; omega, by show -1000000 ≤ p.1 * q.1; omega, by show p.1 * q.1 ≤ 1000000; omega⟩

/-- What SumGraft answers. -/
def grfOf (xs ys : List (Int × ByteArray)) (k : Int) : Option (List Tm) :=
  match sumOf xs, sumOf ys with
  | some ps, some qs =>
    match ps, qs with
    | [], _ => some []
    | _, [] => some []
    | p :: ps', q :: qs' => if 0 ≤ k ∧ k ≤ (p.2.leaves : Int) - 1 then outOf (canon (grfTm k.toNat (p :: ps') (q :: qs'))) else none
  | _, _ => none
theorem grfOf_len {xs ys : List (Int × ByteArray)} {k : Int} {qs : List Tm} (h : some qs = grfOf xs ys k) : qs.length ≤ 60 := by
  rw [grfOf] at h
  split at h
  · split at h
    · cases h; simp
    · cases h; simp
    · split at h
      · exact outOf_len h
      · cases h
  · cases h
end Go.Proofs.YtdjcgakmeebijaaGreat
end
section
/- The model: all grafts of two sums at a leaf. -/
section
namespace Go.Proofs.YtdjcgakmeebijaaGreat
open Go.RowKit

theorem addAll_grf (l : List Tm) (k : Nat) (p : Tm) (qs : List Tm) {j : Nat} (h : j < qs.length) : addAll l (grfRow k p (qs.take (j + 1))) = addT (addAll l (grfRow k p (qs.take j))) (p.1 * (qs[j]).1) (grf k p.2 (qs[j]).2) := by
  rw [grfRow_take k p qs h, addAll_snoc]

set_option maxRecDepth 100000 in
set_option maxHeartbeats 4000000 in
theorem l3Graft_any (ps qs : List Tm) (k : Nat) (n n' : Nat) (hn : n = ps.length) (hn' : n' = qs.length) (ab : Option Addr) (cb : Nat) (ab' : Option Addr) (cb' : Nat) (w : World) (hn2 : n ≤ 60) (hn2' : n' ≤ 60)
    (hps : ∀ p ∈ ps, p.2.wf ∧ p.2.leaves ≤ 12 ∧ p.2.nodes ≤ 16 ∧ 1 ≤ p.1 ∧ p.1 ≤ 100) (hk : ∀ p ∈ ps, k < p.2.leaves) (hqs : ∀ p ∈ qs, p.2.wf ∧ p.2.leaves ≤ 12 ∧ p.2.nodes ≤ 16 ∧ 1 ≤ p.1 ∧ p.1 ≤ 100)
    (hr : Rd tmS w (fun _ => True) ab ps) (hr' : Rd tmS w (fun _ => True) ab' qs) :
    Calls Tryz.prog 22 #[.slice ab n cb, .int .i64 k, .slice ab' n' cb'] w (NewTms (canon (grfTm k ps qs)) w) := by
  have HPS := Lib.hid hps
  have HQS := Lib.hid hqs
  have HK := Lib.hid hk
  have HR := Lib.hid hr
  have HRQ := Lib.hid hr'
  have HNN := Lib.hid hn
  have HNN' := Lib.hid hn'
  clear hps hqs hk hr hr' hn hn'
  have hok : ∀ i j, ∀ r ∈ grfTm k (ps.take i) qs ++ (match ps[i]? with | some p => grfRow k p (qs.take j) | none => []), r.2.wf ∧ r.2.leaves ≤ 1000 ∧ r.2.nodes ≤ 1000 := fun i j r hr => by
    have hall := grfTm_ok HPS.out HK.out HQS.out
    have hmem : r ∈ grfTm k ps qs := by
      rcases List.mem_append.1 hr with h | h
      · obtain ⟨p, hp, h2⟩ := List.mem_flatMap.1 h
        exact List.mem_flatMap.2 ⟨p, List.mem_of_mem_take hp, h2⟩
      · split at h
        · next p hp =>
          obtain ⟨q, hq, h3⟩ := List.mem_map.1 h
          exact List.mem_flatMap.2 ⟨p, List.mem_of_getElem? hp, List.mem_map.2 ⟨q, List.mem_of_mem_take hq, h3⟩⟩
        · simp at h
    have h := hall r hmem
    exact ⟨h.1, h.2.1, h.2.2.1⟩
  have HOK := Lib.hid hok
  clear hok
  go_enter Tryz.func22, Tryz.ntmps22
  go_wp2_with fail
  have HPRE : Hid (∀ L : List Tm, (∀ r ∈ L, r.2.wf ∧ r.2.leaves ≤ 1000 ∧ r.2.nodes ≤ 1000) → L.length ≤ 10000 → (canon L).length ≤ 10000 ∧ ∀ p ∈ canon L, p.2.leaves ≤ 1000 ∧ p.2.nodes ≤ 1000 ∧ -1000 ≤ p.1 ∧ p.1 ≤ 1000) := Lib.hid (fun L hL hl => by
    have hnf : NF (canon L) := NF.canon (fun p hp => (hL p hp).1)
    refine ⟨by have := canon_length L; omega, fun p hp => ?_⟩
    have h1 := hnf.2 p hp
    obtain ⟨q, hq, e⟩ := mem_canon hp
    have h := hL q hq
    rw [e]; exact ⟨h.2.1, h.2.2, by omega, by omega⟩)
  go_loopw [7, 8] (fun ov iv wr => ∃ (i gq cq : Nat), i ≤ n ∧ iv = .int .i64 i ∧ ov = .slice (some ⟨gq, 0, none⟩) (canon (grfTm k (ps.take i) qs)).length cq ∧ (canon (grfTm k (ps.take i) qs)).length ≤ cq ∧ cq ≤ 9223372036854775807 ∧ Rd tmS wr (fun _ => True) (some ⟨gq, 0, none⟩) (canon (grfTm k (ps.take i) qs)) ∧ Below w.heap.size w wr) (fun _ iv _ => n - (intOf iv).toNat)
  case atStart => exact ⟨0, w.heap.size, 0, Nat.zero_le _, rfl, rfl, Nat.le_refl _, by omega, Rd.nil, (Below.refl _ _).alloc (Nat.le_refl _) _⟩
  case round =>
    obtain ⟨wo, rfl⟩ : ∃ wo : World, wo = wr := ⟨_, rfl⟩
    obtain ⟨i, gq, cq, hi, rfl, rfl, hq1, hq2, hrq, hB⟩ := hrel
    have HQ1 := Lib.hid hq1
    have HRI := Lib.hid hrq
    have HB := Lib.hid hB
    clear hrq hq1
    obtain ⟨N, hN⟩ : ∃ N, N = (canon (grfTm k (ps.take i) qs)).length := ⟨_, rfl⟩
    rw [← hN] at HQ1
    rw [← hN]
    have HNL := Lib.hid hN
    clear hN
    by_cases hlt : i < n
    · have hltp : i < ps.length := by rw [← HNN.out]; exact hlt
      have HTK := Lib.hid (grfTm_take k ps qs hltp)
      have HGE : Hid (ps[i]? = some ps[i]) := Lib.hid (List.getElem?_eq_getElem hltp)
      obtain ⟨gp, lb, sa, sn, sc, rfl, _, e0, e1, e2, hw, hrep⟩ := tmS.get HR.out i hltp
      have hq := HPS.out (ps[i]) (List.getElem_mem hltp)
      have hkt := HK.out (ps[i]) (List.getElem_mem hltp)
      obtain ⟨p, hp⟩ : ∃ p, p = ps[i] := ⟨_, rfl⟩
      rw [← hp] at e0 hw hrep hq hkt HTK HGE
      obtain ⟨x, t⟩ := p
      simp only at e0 hw hrep hq hkt
      have E0 := Lib.hid e0
      have E1 := Lib.hid e1
      have E2 := Lib.hid e2
      have HREP := Lib.hid hrep
      clear hp e0 e1 e2 hrep hB
      go_wp2_with fail
      go_loopw [7, 9] (fun ov jv wr => ∃ (j gq cq : Nat), j ≤ n' ∧ jv = .int .i64 j ∧ ov = .slice (some ⟨gq, 0, none⟩) (canon (grfTm k (ps.take i) qs ++ grfRow k (x, t) (qs.take j))).length cq ∧ (canon (grfTm k (ps.take i) qs ++ grfRow k (x, t) (qs.take j))).length ≤ cq ∧ cq ≤ 9223372036854775807 ∧ Rd tmS wr (fun _ => True) (some ⟨gq, 0, none⟩) (canon (grfTm k (ps.take i) qs ++ grfRow k (x, t) (qs.take j))) ∧ Below w.heap.size w wr) (fun _ jv _ => n' - (intOf jv).toNat)
      case atStart =>
        have e : grfTm k (ps.take i) qs ++ grfRow k (x, t) (qs.take 0) = grfTm k (ps.take i) qs := by rw [List.take_zero, grfRow, List.map_nil, List.append_nil]
        exact ⟨0, gq, cq, Nat.zero_le _, rfl, by rw [e, ← HNL.out], by rw [e, ← HNL.out]; exact HQ1.out, hq2, by rw [e]; exact HRI.out, HB.out⟩
      case round =>
        obtain ⟨j, gj, cj, hj, rfl, rfl, hj1, hj2, hrj, hBj⟩ := hrel
        have HRJ := Lib.hid hrj
        have HBj := Lib.hid hBj
        have HJ1 := Lib.hid hj1
        have hL := HOK.out i j
        rw [HGE.out] at hL
        simp only at hL
        have hlen : (grfTm k (ps.take i) qs ++ grfRow k (x, t) (qs.take j)).length ≤ 10000 := by
          rw [List.length_append, grfTm_length, grfRow_length, List.length_take, List.length_take]
          have h1 : min i ps.length ≤ 60 := by omega
          have h2 : qs.length ≤ 60 := by have := HNN'.out; omega
          have h3 := Nat.mul_le_mul h1 h2
          omega
        obtain ⟨hK1, hK2⟩ := HPRE.out _ hL hlen
        have HK2 := Lib.hid hK2
        obtain ⟨M, hM⟩ : ∃ M, M = (canon (grfTm k (ps.take i) qs ++ grfRow k (x, t) (qs.take j))).length := ⟨_, rfl⟩
        rw [← hM] at HJ1 hK1
        rw [← hM]
        have HML := Lib.hid hM
        clear hrj hj1 hL hlen hK2 hM
        by_cases hltj : j < n'
        · have hltq : j < qs.length := by rw [← HNN'.out]; exact hltj
          obtain ⟨g2, lb', sa', sn', sc', rfl, _, f0, f1, f2, hw', hrep'⟩ := tmS.get HRQ.out j hltq
          have hq' := HQS.out (qs[j]) (List.getElem_mem hltq)
          have HTJ : Hid (canon (grfTm k (ps.take i) qs ++ grfRow k (x, t) (qs.take (j + 1))) = addT (canon (grfTm k (ps.take i) qs ++ grfRow k (x, t) (qs.take j))) (x * (qs[j]).1) (grf k t (qs[j]).2)) := Lib.hid (by
            rw [grfRow_take k (x, t) qs hltq, ← List.append_assoc]; exact canon_snoc _ _ _)
          obtain ⟨q, hqe⟩ : ∃ q, q = qs[j] := ⟨_, rfl⟩
          rw [← hqe] at f0 hw' hrep' hq' HTJ
          obtain ⟨x', u⟩ := q
          simp only at f0 hw' hrep' hq' HTJ
          have c0 := keep1 hBj E0.out
          have c1 := keep1 hBj E1.out
          have c2 := keep1 hBj E2.out
          have d0 := keep1 hBj f0
          have d1 := keep1 hBj f1
          have d2 := keep1 hBj f2
          have h100 := Int.mul_le_mul_of_nonneg_right hq.2.2.2.2 (show 0 ≤ x' by omega)
          have h0 := Int.mul_nonneg (show 0 ≤ x by omega) (show 0 ≤ x' by omega)
          have hwr : IntKind.i64.wrap (x * x') = x * x' := by rw [IntKind.wrap_i64]; omega
          have hgwf := grf_wf (k := k) hw hw'
          have hgs := grf_size hkt ⟨hq.2.1, hq.2.2.1⟩ ⟨hq'.2.1, hq'.2.2.1⟩
          have HGR := Lib.hid (fun (W : World) (hb : Below wr.heap.size wr W) => l1Graft_any t (.string lb) (.slice sa sn sc) k u (.string lb') (.slice sa' sn' sc') W (fun b => b < W.heap.size) hw hw' (by omega) hkt (fun b h => h) ((HREP.out.below hw (below_step hBj hb)).keep (fun _ _ _ h => h) (fun _ _ h => h) hw) ((hrep'.below hw' (below_step hBj hb)).keep (fun _ _ _ h => h) (fun _ _ h => h) hw'))
          have HAD := Lib.hid (fun (W : World) (hb : Below wr.heap.size wr W) (lb3 : ByteArray) (sa3 : Option Addr) (sn3 sc3 : Nat) (hr3 : RepS W (fun _ => True) (grf k t u) (.string lb3) (.slice sa3 sn3 sc3)) => l3Add_any (canon (grfTm k (ps.take i) qs ++ grfRow k (x, t) (qs.take j))) M HML.out gj cj (x * x') (grf k t u) lb3 sa3 sn3 sc3 W HJ1.out hj2 (by omega) HK2.out hgwf (by omega) (by omega) (by omega) (by omega) (HRJ.out.below (by decide) hb) hr3)
          clear hqe f0 f1 f2 hrep' hBj h100 h0
          go_wp2_with fail
          go_region_held3 (fun w' => w'.cell? ⟨gp, i * 3, none⟩ = some (.int .i64 x) ∧ w'.cell? ⟨gp, i * 3 + 1, none⟩ = some (.string lb) ∧ w'.cell? ⟨gp, i * 3 + 2, none⟩ = some (.slice sa sn sc) ∧ w'.cell? ⟨g2, j * 3, none⟩ = some (.int .i64 x') ∧ w'.cell? ⟨g2, j * 3 + 1, none⟩ = some (.string lb') ∧ w'.cell? ⟨g2, j * 3 + 2, none⟩ = some (.slice sa' sn' sc'))
            (first | exact ⟨c0, c1, c2, d0, d1, d2⟩ | exact ⟨y0, y1, y2, y3, y4, y5⟩ | exact ⟨z0, z1, z2, z3, z4, z5⟩)
            (first
            | (go_at_call 38; have hq9 := HC2.out; clear hq9; refine (HAD.out _ HC2.out _ _ _ _ HRM.out).mono ?_; rintro e w3 ⟨hB3, g3, cp3, rfl, hq3, hq4, hr3⟩; have z0 := keep1 hB3 y0; have z1 := keep1 hB3 y1; have z2 := keep1 hB3 y2; have z3 := keep1 hB3 y3; have z4 := keep1 hB3 y4; have z5 := keep1 hB3 y5)
            | (go_at_call 39; refine (HGR.out _ (Below.refl _ _).drew).mono ?_; rintro e w2 ⟨hB2, lb3, sa3, sn3, sc3, rfl, hrm⟩; have hB2' : Below wr.heap.size wr w2 := (Below.refl _ _).drew.trans hB2; have HC2 := Lib.hid hB2'; have y0 := keep1 hB2' c0; have y1 := keep1 hB2' c1; have y2 := keep1 hB2' c2; have y3 := keep1 hB2' d0; have y4 := keep1 hB2' d1; have y5 := keep1 hB2' d2; have HRM := Lib.hid (hrm.keep (P' := fun _ => True) (fun _ _ _ h => h) (fun _ _ _ => trivial) hgwf); clear hB2 hB2' hrm))
          all_goals
            have HR3 := Lib.hid hr3
            have HB3 := Lib.hid (below_step HBj.out (HC2.out.trans (hB3.mono HC2.out.size)))
            clear hr3 hB3
            go_wp2_with fail
            go_roundw
            case rel => exact ⟨j + 1, g3, cp3, by omega, by go_num, by rw [HTJ.out], by rw [HTJ.out]; exact hq3, hq4, by rw [HTJ.out]; exact HR3.out, HB3.out⟩
            case measure => simp [intOf]; omega
        · have hjn : j = n' := by omega
          have HE : Hid (grfTm k (ps.take i) qs ++ grfRow k (x, t) (qs.take j) = grfTm k (ps.take (i + 1)) qs) := Lib.hid (by rw [HTK.out, hjn, HNN'.out, List.take_length])
          have hml := HML.out
          have hrr := HRJ.out
          rw [HE.out] at hml hrr
          have HML2 := Lib.hid hml
          have HRR2 := Lib.hid hrr
          clear hml hrr hBj
          go_wp2_with fail
          go_roundw
          case rel => exact ⟨i + 1, gj, cj, by omega, by go_num, by rw [HML2.out], by rw [← HML2.out]; exact HJ1.out, hj2, HRR2.out, HBj.out⟩
          case measure => simp [intOf]; omega
    · have hin : i = n := by omega
      have HE : Hid (grfTm k (ps.take i) qs = grfTm k ps qs) := Lib.hid (by rw [hin, HNN.out, List.take_length])
      have hnl := HNL.out
      have hrr := HRI.out
      rw [HE.out] at hnl hrr
      have HNL2 := Lib.hid hnl
      have HRR2 := Lib.hid hrr
      clear hnl hrr hB
      go_wp2_with fail
      go_ret
      exact ⟨HB.out, gq, cq, by rw [← HNL2.out]; rfl, by rw [← HNL2.out]; exact HQ1.out, hq2, HRR2.out⟩
end Go.Proofs.YtdjcgakmeebijaaGreat
end
section
/- SumGraft by the model. -/
namespace Go.Proofs.YtdjcgakmeebijaaGreat
open Go.RowKit

theorem grfOf_no1 {xs ys : List (Int × ByteArray)} {k : Int} (h : sumOf xs = none) : grfOf xs ys k = none := by rw [grfOf, h]
theorem grfOf_no2 {xs ys : List (Int × ByteArray)} {k : Int} (h : sumOf ys = none) : grfOf xs ys k = none := by
  rw [grfOf, h]; split
  · next h1 h2 => cases h2
  · rfl
theorem grfOf_nil1 {xs ys : List (Int × ByteArray)} {qs : List Tm} {k : Int} (h : sumOf xs = some []) (h2 : sumOf ys = some qs) : grfOf xs ys k = some [] := by rw [grfOf, h, h2]
theorem grfOf_nil2 {xs ys : List (Int × ByteArray)} {ps : List Tm} {k : Int} (h : sumOf xs = some ps) (h2 : sumOf ys = some []) : grfOf xs ys k = some [] := by
  rw [grfOf, h, h2]
  cases ps <;> rfl
theorem grfOf_in {xs ys : List (Int × ByteArray)} {p q : Tm} {ps qs : List Tm} {k : Int} (h : sumOf xs = some (p :: ps)) (h2 : sumOf ys = some (q :: qs)) :
    grfOf xs ys k = if 0 ≤ k ∧ k ≤ (p.2.leaves : Int) - 1 then outOf (canon (grfTm k.toNat (p :: ps) (q :: qs))) else none := by rw [grfOf, h, h2]

/-- All trees of a sum have as many leaves as the first. -/
theorem sum_leaves {xs : List (Int × ByteArray)} {p : Tm} {ps : List Tm} (h : sumOf xs = some (p :: ps)) : ∀ r ∈ p :: ps, r.2.leaves = p.2.leaves := fun r hr => (sumOf_ok h).2.2.1.same r hr p (by simp)

set_option maxRecDepth 100000 in
set_option maxHeartbeats 1000000 in
theorem sSumGraft_any (xs ys : List (Int × ByteArray)) (n n' : Nat) (hnx : n = xs.length) (hny : n' = ys.length) (g cap g' cap' : Nat) (k : Int) (w : World) (hn : n ≤ 1048576) (hn' : n' ≤ 1048576) (hz : ∀ j (h : j < xs.length), (xs[j]).2.size ≤ 1048576) (hz' : ∀ j (h : j < ys.length), (ys[j]).2.size ≤ 1048576) (hl : TermL w g xs) (hl' : TermL w g' ys) :
    Calls Tryz.prog 6 #[.slice (some ⟨g, 0, none⟩) n cap, .int .i64 k, .slice (some ⟨g', 0, none⟩) n' cap'] w (TermsPost (grfOf xs ys k) w) := by
  have HR := Lib.hid (l3Read_any xs n hnx g cap w hn hz hl)
  have HR' := Lib.hid (fun (W : World) (hb : Below w.heap.size w W) => l3Read_any ys n' hny g' cap' W hn' hz' (hl'.below hb))
  clear hnx hny hz hz' hl hl'
  go_enter Tryz.func6, Tryz.ntmps6
  go_wp2_with fail
  refine HR.out.mono ?_
  rintro e w1 ⟨hB1, a1, m1, c1, b1, rfl, hres1⟩
  have HB1 := Lib.hid hB1
  have HRES1 := Lib.hid hres1
  clear hB1 hres1
  go_wp2_with fail
  refine (HR'.out _ HB1.out).mono ?_
  rintro e w2 ⟨hB2, a2, m2, c2, b2, rfl, hres2⟩
  have HB12 := Lib.hid hB2
  have HB2 := Lib.hid (below_step HB1.out hB2)
  clear hB2
  rcases HRES1.out with ⟨hno, rfl⟩ | ⟨ps, hyes, rfl, hk1, hrd, ⟨g1, rfl⟩, _, _⟩
  · have HN := Lib.hid (grfOf_no1 (ys := ys) (k := k) hno)
    clear hno hres2
    go_wp2_with fail
    go_ret2
    exact ⟨HB2.out.alloc HB2.out.size _, .inl ⟨HN.out, _, _, rfl⟩⟩
  · rcases hres2 with ⟨hno, rfl⟩ | ⟨qs, hyes', rfl, hk2, hrd', ⟨g2, rfl⟩, _, _⟩
    · have HN := Lib.hid (grfOf_no2 (xs := xs) (k := k) hno)
      clear hno hyes hrd hk1
      go_wp2_with fail
      go_ret2
      exact ⟨HB2.out.alloc HB2.out.size _, .inl ⟨HN.out, _, _, rfl⟩⟩
    · cases ps with
      | nil =>
        have HN := Lib.hid (grfOf_nil1 (k := k) hyes hyes')
        have e1 : ((m1 : Int) == 0) = true := by simp [hk1]
        clear hk1 hk2 hyes hyes' hrd hrd'
        go_wp2_with fail
        go_ret2
        have hs2 : w.heap.size ≤ w2.heap.size := HB2.out.size
        exact ⟨HB2.out.alloc hs2 _, .inr ⟨[], w2.heap.size, 0, #[], HN.out, rfl, hs2, heap_alloc_new w2 _, by simp, fun j hj => by simp [txtTm] at hj⟩⟩
      | cons p ps =>
        have e1 : ((m1 : Int) == 0) = false := by simp [hk1]; omega
        cases qs with
        | nil =>
          have HN := Lib.hid (grfOf_nil2 (k := k) hyes hyes')
          have e2 : ((m2 : Int) == 0) = true := by simp [hk2]
          clear hk1 hk2 hyes hyes' hrd hrd'
          go_wp2_with fail
          go_ret2
          have hs2 : w.heap.size ≤ w2.heap.size := HB2.out.size
          exact ⟨HB2.out.alloc hs2 _, .inr ⟨[], w2.heap.size, 0, #[], HN.out, rfl, hs2, heap_alloc_new w2 _, by simp, fun j hj => by simp [txtTm] at hj⟩⟩
        | cons q qs =>
          have e2 : ((m2 : Int) == 0) = false := by simp [hk2]; omega
          have HIN := Lib.hid (grfOf_in (k := k) hyes hyes')
          obtain ⟨h60, htr, _⟩ := sum_trees hyes
          obtain ⟨h60', htr', _⟩ := sum_trees hyes'
          have HSL := Lib.hid (sum_leaves hyes)
          have HTR := Lib.hid htr
          have HTR' := Lib.hid htr'
          have HK1 := Lib.hid hk1
          have HK2 := Lib.hid hk2
          have HRD := Lib.hid (hrd.below (by decide) HB12.out)
          have HRD' := Lib.hid hrd'
          have hp := htr p (by simp)
          obtain ⟨g', lb, sa, sn, sc, e', _, c0, c1', c2', hw, hrep⟩ := tmS.get HRD.out 0 (by simp)
          simp only [Option.some.injEq, Addr.mk.injEq, and_true] at e'
          subst e'
          simp only [List.getElem_cons_zero] at hrep hw
          have HLV := Lib.hid (fun (W : World) (hb : Below w2.heap.size w2 W) => l1Leaves_any _ p.2 _ _ W _ (Nat.le_refl _) hw (by omega) (hrep.below hw hb))
          obtain ⟨L, hL⟩ : ∃ L, L = p.2.leaves := ⟨_, rfl⟩
          rw [← hL] at HLV HIN
          have HLL := Lib.hid hL
          have hm1 : (0 : Int) < (m1 : Int) := by simp at hk1; omega
          have hwrp : IntKind.i64.wrap ((L : Int) - 1) = (L : Int) - 1 := by rw [IntKind.wrap_i64]; omega
          have hl1 : m1 ≤ 60 := by omega
          have hl2 : m2 ≤ 60 := by omega
          clear hk1 hk2 hyes hyes' hrd hrd' htr htr' hrep hL h60 h60' hp
          by_cases hin : 0 ≤ k ∧ k ≤ (L : Int) - 1
          · have HI6 : Hid (∀ w, Calls Tryz.prog 19 #[.int .i64 k, .int .i64 0, .int .i64 ((L : Int) - 1)] w fun e w' => e = .returned (.bool true) ∧ w = w') := Lib.hid (fun w => by
              have := l6In_any k 0 ((L : Int) - 1) w
              rw [decide_eq_true hin] at this
              exact this)
            obtain ⟨kk, hkk⟩ : ∃ kk : Nat, (kk : Int) = k := ⟨k.toNat, by omega⟩
            subst hkk
            have HV : Hid (grfOf xs ys (kk : Int) = outOf (canon (grfTm kk (p :: ps) (q :: qs)))) := Lib.hid (by rw [HIN.out, if_pos hin]; rfl)
            have hkl : ∀ r ∈ p :: ps, kk < r.2.leaves := fun r hr => by
              have h1 := HSL.out r hr
              have h2 := HLL.out
              omega
            have HGR := Lib.hid (fun (W : World) (hb : Below w2.heap.size w2 W) => l3Graft_any (p :: ps) (q :: qs) kk m1 m2 HK1.out HK2.out (some ⟨g1, 0, none⟩) c1 (some ⟨g2, 0, none⟩) c2 W hl1 hl2 HTR.out hkl HTR'.out (HRD.out.below (by decide) hb) (HRD'.out.below (by decide) hb))
            have HOK := Lib.hid (grfTm_ok HTR.out hkl HTR'.out)
            have HCL : Hid ((canon (grfTm kk (p :: ps) (q :: qs))).length ≤ 1000000) := Lib.hid (by
              have h1 := canon_length (grfTm kk (p :: ps) (q :: qs))
              rw [grfTm_length, ← HK1.out, ← HK2.out] at h1
              have h2 := Nat.mul_le_mul hl1 hl2
              omega)
            clear hin hkl
            go_wp2_with (first
              | (go_at_call 20; refine (HLV.out _ (Below.refl _ _)).mono ?_; rintro e w3 ⟨rfl, hB3⟩; have HB3 := Lib.hid hB3; clear hB3)
              | (go_at_call 19; refine (HI6.out _).mono ?_; rintro e w' ⟨rfl, rfl⟩))
            refine (HGR.out _ HB3.out).mono ?_
            rintro e w4 ⟨hB4, g4, cp4, rfl, _, _, hr4⟩
            have HB4 := Lib.hid (below_step (below_step HB2.out HB3.out) hB4)
            have HW := Lib.hid (l3Write_any (canon (grfTm kk (p :: ps) (q :: qs))) _ rfl g4 cp4 w4 HCL.out (fun r hr => by
              obtain ⟨s, hs, e⟩ := mem_canon hr
              have h := HOK.out s hs
              rw [e]; exact ⟨h.2.1, h.2.2.1⟩) hr4)
            clear hB4 hr4
            go_wp2_with fail
            refine HW.out.mono ?_
            rintro e w5 ⟨hB5, hres⟩
            have HB5 := Lib.hid (below_step HB4.out hB5)
            rcases hres with ⟨hno, a3, c3, rfl⟩ | ⟨rs, g3, c3, cur, hyes, rfl, hg3, hcur, hcs, hl3⟩
            · have HQ : Hid (grfOf xs ys (kk : Int) = none) := Lib.hid (by rw [HV.out, hno])
              clear hno
              go_wp2_with fail
              go_ret2
              exact ⟨HB5.out, .inl ⟨HQ.out, _, _, rfl⟩⟩
            · have HQ : Hid (grfOf xs ys (kk : Int) = some rs) := Lib.hid (by rw [HV.out, hyes])
              have HRES : Hid (w4.heap.size ≤ g3 ∧ w5.heap[g3]? = some (.cells cur 33 (0, 0)) ∧ rs.length * 2 ≤ cur.size ∧ TermL w5 g3 (txtTm rs)) := Lib.hid ⟨hg3, hcur, hcs, hl3⟩
              clear hyes hcur hcs hl3
              go_wp2_with fail
              go_ret2
              obtain ⟨h1, h2, h3, h4⟩ := HRES.out
              exact ⟨HB5.out, .inr ⟨rs, g3, c3, cur, HQ.out, rfl, Nat.le_trans HB4.out.size h1, h2, h3, h4⟩⟩
          · have HI6 : Hid (∀ w, Calls Tryz.prog 19 #[.int .i64 k, .int .i64 0, .int .i64 ((L : Int) - 1)] w fun e w' => e = .returned (.bool false) ∧ w = w') := Lib.hid (fun w => by
              have := l6In_any k 0 ((L : Int) - 1) w
              rw [decide_eq_false hin] at this
              exact this)
            have HV : Hid (grfOf xs ys k = none) := Lib.hid (by rw [HIN.out, if_neg hin])
            clear hin
            go_wp2_with (first
              | (go_at_call 20; refine (HLV.out _ (Below.refl _ _)).mono ?_; rintro e w3 ⟨rfl, hB3⟩; have HB3 := Lib.hid hB3; clear hB3)
              | (go_at_call 19; refine (HI6.out _).mono ?_; rintro e w' ⟨rfl, rfl⟩))
            go_ret2
            have HB4 := Lib.hid (below_step HB2.out HB3.out)
            exact ⟨HB4.out.alloc HB4.out.size _, .inl ⟨HV.out, _, _, rfl⟩⟩
end Go.Proofs.YtdjcgakmeebijaaGreat
end
end
