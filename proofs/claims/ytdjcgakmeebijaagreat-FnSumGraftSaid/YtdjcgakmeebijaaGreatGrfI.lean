/- The program: all grafts of two sums at a leaf. -/
import Derived.Test.YtdjcgakmeebijaaGreatKGrfS
import Derived.Test.YtdjcgakmeebijaaGreatSumOpsI
namespace Go.Proofs.YtdjcgakmeebijaaGreat
open Go.RowKit

set_option maxRecDepth 100000 in
set_option maxHeartbeats 1000000 in
theorem graftOne_any (t u : T) (k : Nat) (ty ty' : TypeId) (a a' : Addr) (gw pl wcp gw' pl' wcp' kb : Nat) (tx tx' : Array UInt8) (w : World) (P : Nat → Prop) (hw : t.wf) (huw : u.wf) (ht : t.leaves ≤ 12 ∧ t.nodes ≤ 16) (hu : u.leaves ≤ 12 ∧ u.nodes ≤ 16) (hk : k < t.leaves) (hP : ∀ b, P b → b < w.heap.size)
    (hr : RepI w P t ty a) (hru : RepI w P u ty' a') (hkb : w.cell? ⟨kb, 0, none⟩ = some (.int .i64 k)) :
    Calls Tryz.prog 33 #[.agg #[.iface ty (.pointer (some a)), .slice (some ⟨gw, 0, none⟩) pl wcp, .string ⟨tx⟩], .agg #[.iface ty' (.pointer (some a')), .slice (some ⟨gw', 0, none⟩) pl' wcp', .string ⟨tx'⟩], .pointer (some ⟨kb, 0, none⟩)] w (RankPost P (grf k t u) w) := by
  have HG := Lib.hid (fun (W : World) (hb : Below w.heap.size w W) => graftAt_any t k u ty a ty' a' W P hw huw (by omega) hk (fun b h => Nat.lt_of_lt_of_le (hP b h) hb.size) (hr.below hw hb) (hru.below huw hb))
  have hgw := grf_wf (k := k) hw huw
  have hgs := grf_size hk ht hu
  have hkl : kb < w.heap.size := World.block_lt_of_cell? w _ hkb
  have HP := Lib.hid hP
  have HB0 := Lib.hid ((((Below.refl w.heap.size w).alloc (Nat.le_refl _) (.cells #[.iface ty (.pointer (some a)), .slice (some ⟨gw, 0, none⟩) pl wcp, .string ⟨tx⟩] 52 (0, 0))).alloc (by simp) (.cells #[.iface ty' (.pointer (some a')), .slice (some ⟨gw', 0, none⟩) pl' wcp', .string ⟨tx'⟩] 52 (0, 0))).alloc (by simp; omega) (.cells #[.nilIface, .slice none 0 0, .string ⟨#[]⟩] 52 (0, 0)))
  have HZ0 : Hid ((((w.alloc (.cells #[.iface ty (.pointer (some a)), .slice (some ⟨gw, 0, none⟩) pl wcp, .string ⟨tx⟩] 52 (0, 0))).alloc (.cells #[.iface ty' (.pointer (some a')), .slice (some ⟨gw', 0, none⟩) pl' wcp', .string ⟨tx'⟩] 52 (0, 0))).alloc (.cells #[.nilIface, .slice none 0 0, .string ⟨#[]⟩] 52 (0, 0))).heap[w.heap.size + 1 + 1]? = some (.cells #[.nilIface, .slice none 0 0, .string ⟨#[]⟩] 52 (0, 0))) := Lib.hid (by
    have := heap_alloc_new ((w.alloc (.cells #[.iface ty (.pointer (some a)), .slice (some ⟨gw, 0, none⟩) pl wcp, .string ⟨tx⟩] 52 (0, 0))).alloc (.cells #[.iface ty' (.pointer (some a')), .slice (some ⟨gw', 0, none⟩) pl' wcp', .string ⟨tx'⟩] 52 (0, 0))) (.cells #[.nilIface, .slice none 0 0, .string ⟨#[]⟩] 52 (0, 0))
    simpa using this)
  have hkb3 := keep1 HB0.out hkb
  have hkl1 : kb < w.heap.size + 1 := by omega
  have hkl2 : kb < w.heap.size + 1 + 1 := by omega
  clear hr hru hP
  go_enter Tryz.func33, Tryz.ntmps33
  go_wp2_with fail
  refine (HG.out _ HB0.out).mono ?_
  rintro e w1 ⟨hB1, ty2, a2, rfl, hr2⟩
  have hs1 : w.heap.size + 1 + 1 + 1 ≤ w1.heap.size := by have := hB1.size; simpa using this
  have HB1 := Lib.hid (below_step HB0.out hB1)
  have HZ1 := Lib.hid ((hB1.block _ (by simp)).trans HZ0.out)
  have HRK := Lib.hid (rank_any (grf k t u) ty2 a2 w1 (fun b => P b ∨ w.heap.size + 3 ≤ b) hgw (by omega) (by omega) (hr2.keep (fun _ _ _ h => h) (fun b h _ => by
    rcases h with h | h
    · exact .inl h
    · exact .inr (by simp at h; omega)) hgw))
  clear hB1 hr2
  go_wp2_with fail
  refine HRK.out.mono ?_
  rintro e w2 ⟨hB2, x, y, z, rfl, hrk⟩
  have hzz := (hB2.block _ (by omega)).trans HZ1.out
  have r0 : w2.cell? ⟨w.heap.size + 1 + 1, 0, none⟩ = some .nilIface := by rw [Lib.cell_of_heap hzz]; rfl
  have r1 : w2.cell? ⟨w.heap.size + 1 + 1, 1, none⟩ = some (.slice none 0 0) := by rw [Lib.cell_of_heap hzz]; rfl
  have r2 : w2.cell? ⟨w.heap.size + 1 + 1, 2, none⟩ = some (.string ⟨#[]⟩) := by rw [Lib.cell_of_heap hzz]; rfl
  have f0 : w2.frozen? ⟨w.heap.size + 1 + 1, 0, none⟩ = false := Lib.frozen_of_heap hzz _
  have f1 : w2.frozen? ⟨w.heap.size + 1 + 1, 1, none⟩ = false := Lib.frozen_of_heap hzz _
  have f2 : w2.frozen? ⟨w.heap.size + 1 + 1, 2, none⟩ = false := Lib.frozen_of_heap hzz _
  have hzl : w.heap.size + 1 + 1 < w2.heap.size := World.block_lt_of_cell? w2 _ r0
  have HB2 := Lib.hid (below_step HB1.out hB2)
  have hrk2 := hrk
  obtain ⟨ty3, a3, g3, wc3, rfl, rfl, rfl, _⟩ := hrk2
  have HRK2 := Lib.hid hrk
  obtain ⟨pl3, hpl3⟩ : ∃ p, p = ((grf k t u).paths []).length := ⟨_, rfl⟩
  obtain ⟨tx3, htx3⟩ : ∃ p, p = (grf k t u).text.toArray := ⟨_, rfl⟩
  rw [← hpl3, ← htx3] at HRK2
  rw [← hpl3, ← htx3]
  clear hB2 hrk hzz hpl3 htx3
  go_wp2_with fail
  refine bodyPost_ret (v := .agg #[.iface ty3 (.pointer (some a3)), .slice (some ⟨g3, 0, none⟩) pl3 wc3, .string ⟨tx3⟩]) (by simp [results, Tryz.results33, go_sem, r0, r1, r2]) rfl ?_
  have hBf := ((HB2.out.setCell (p := ⟨w.heap.size + 1 + 1, 0, none⟩) (by simp; omega) (.iface ty3 (.pointer (some a3)))).setCell (p := ⟨w.heap.size + 1 + 1, 1, none⟩) (by simp; omega) (.slice (some ⟨g3, 0, none⟩) pl3 wc3)).setCell (p := ⟨w.heap.size + 1 + 1, 2, none⟩) (by simp; omega) (.string ⟨tx3⟩)
  refine ⟨hBf, _, _, _, rfl, HRK2.out.keep hgw (fun q u hq hu => ?_) (fun b h _ => by
    rcases h with (h | h) | h
    · exact .inl h
    · exact .inr (by omega)
    · exact .inr (by omega))⟩
  have hne : q.block ≠ w.heap.size + 1 + 1 := by
    rcases hq with (h | h) | h
    · have := HP.out _ h; omega
    · omega
    · omega
  rw [World.cell?_of_block (w := w2)]
  · exact hu
  · rw [Below.heap_setCell _ _ _ _ hne, Below.heap_setCell _ _ _ _ hne, Below.heap_setCell _ _ _ _ hne]

set_option maxRecDepth 100000 in
set_option maxHeartbeats 4000000 in
theorem product_any (P : Nat → Prop) (ps qs : List Tm) (k : Nat) (n n' : Nat) (hn : n = ps.length) (hn' : n' = qs.length) (g cap g' cap' kb : Nat) (w : World) (hn2 : n ≤ 60) (hn2' : n' ≤ 60)
    (hps : ∀ p ∈ ps, p.2.wf ∧ p.2.leaves ≤ 12 ∧ p.2.nodes ≤ 16 ∧ 1 ≤ p.1 ∧ p.1 ≤ 100) (hk : ∀ p ∈ ps, k < p.2.leaves) (hqs : ∀ p ∈ qs, p.2.wf ∧ p.2.leaves ≤ 12 ∧ p.2.nodes ≤ 16 ∧ 1 ≤ p.1 ∧ p.1 ≤ 100)
    (hr : Rd tmI w P (some ⟨g, 0, none⟩) ps) (hr' : Rd tmI w P (some ⟨g', 0, none⟩) qs) (hkb : w.cell? ⟨kb, 0, none⟩ = some (.int .i64 k)) :
    Calls Tryz.prog 32 #[.agg #[.func (.func 41) #[] #[], .slice (some ⟨g, 0, none⟩) n cap], .agg #[.func (.func 41) #[] #[], .slice (some ⟨g', 0, none⟩) n' cap'], .func (.func 33) #[] #[.pointer (some ⟨kb, 0, none⟩)]] w (CombPost P (grfTm k ps qs) w) := by
  obtain ⟨i0, hi0, hzz, hzs, hzb⟩ := info_parts infoPt
  have HPS := Lib.hid hps
  have HQS := Lib.hid hqs
  have HK := Lib.hid hk
  have HKB := Lib.hid hkb
  have HRR := Lib.hid (hr.weak (P' := fun b => P b ∧ b < w.heap.size) (by decide) (fun _ h h' => ⟨h, h'⟩))
  have HRQ := Lib.hid (hr'.weak (P' := fun b => P b ∧ b < w.heap.size) (by decide) (fun _ h h' => ⟨h, h'⟩))
  have HNN := Lib.hid hn
  have HNN' := Lib.hid hn'
  clear hps hqs hk hr hr' hn hn' hkb
  go_enter Tryz.func32, Tryz.ntmps32
  go_wp2_with fail
  obtain ⟨w0, hw0⟩ : ∃ w0, w0 = ((w.alloc (.cells #[.func (.func 41) #[] #[], .slice (some ⟨g, 0, none⟩) n cap] 42 (0, 0))).alloc (.cells #[.func (.func 41) #[] #[], .slice (some ⟨g', 0, none⟩) n' cap'] 42 (0, 0))).alloc (.cells #[.nilFunc, .slice none 0 0] 42 (0, 0)) := ⟨_, rfl⟩
  have hsz : w0.heap.size = w.heap.size + 1 + 1 + 1 := by rw [hw0]; simp
  have HB0 : Hid (Below w.heap.size w w0) := Lib.hid (by rw [hw0]; go_grown)
  have HC0 : Hid (w0.heap[w.heap.size]? = some (.cells #[.func (.func 41) #[] #[], .slice (some ⟨g, 0, none⟩) n cap] 42 (0, 0))) := Lib.hid (by
    rw [hw0, Below.heap_alloc _ _ _ (by first | (simp; done) | (simp; omega)), Below.heap_alloc _ _ _ (by simp)]; exact heap_alloc_new w _)
  have HC1 : Hid (w0.heap[w.heap.size + 1]? = some (.cells #[.func (.func 41) #[] #[], .slice (some ⟨g', 0, none⟩) n' cap'] 42 (0, 0))) := Lib.hid (by
    rw [hw0, Below.heap_alloc _ _ _ (by first | (simp; done) | (simp; omega))]
    have := heap_alloc_new (w.alloc (.cells #[.func (.func 41) #[] #[], .slice (some ⟨g, 0, none⟩) n cap] 42 (0, 0))) (.cells #[.func (.func 41) #[] #[], .slice (some ⟨g', 0, none⟩) n' cap'] 42 (0, 0))
    simpa using this)
  have HC2 : Hid (w0.heap[w.heap.size + 1 + 1]? = some (.cells #[.nilFunc, .slice none 0 0] 42 (0, 0))) := Lib.hid (by
    rw [hw0]
    have := heap_alloc_new ((w.alloc (.cells #[.func (.func 41) #[] #[], .slice (some ⟨g, 0, none⟩) n cap] 42 (0, 0))).alloc (.cells #[.func (.func 41) #[] #[], .slice (some ⟨g', 0, none⟩) n' cap'] 42 (0, 0))) (.cells #[.nilFunc, .slice none 0 0] 42 (0, 0))
    simpa using this)
  rw [← hw0, ← hsz]
  have HSZ := Lib.hid hsz
  clear hw0 hsz
  go_loopw [7, 16] (fun ov iv wr => ∃ (i m : Nat) (va : Option Addr) (vc : Nat) (vs : List Value), i ≤ n ∧ m = (grfTm k (ps.take i) qs).length ∧ va ≠ none ∧ iv = .int .i64 i ∧ ov = .slice va m vc ∧ Row (tmI.inn (fun b => (P b ∧ b < w.heap.size) ∨ w0.heap.size ≤ b)) 82 w0.heap.size (grfTm k (ps.take i) qs) (.slice va m vc) vs wr ∧ Below w0.heap.size w0 wr) (fun _ iv _ => n - (intOf iv).toNat)
  case atStart =>
    refine ⟨0, 0, some ⟨w0.heap.size, 0, none⟩, 0, [], Nat.zero_le _, rfl, by simp, rfl, rfl, ?_, (Below.refl _ _).alloc (Nat.le_refl _) _⟩
    exact ⟨World.ownsRow_made w0 #[] 0 (Nat.le_refl _) (by simp [maxLen]) rfl, fun _ h => by simp [grfTm] at h⟩
  case round =>
    obtain ⟨wo, rfl⟩ : ∃ wo : World, wo = wr := ⟨_, rfl⟩
    obtain ⟨i, m, va, vc, vs, hi, hm, hva, rfl, rfl, hrow, hB⟩ := hrel
    have HROW := Lib.hid hrow
    have HB := Lib.hid hB
    have HVA := Lib.hid hva
    have HM := Lib.hid hm
    have HBW := Lib.hid (below_step HB0.out hB)
    have hszr : w0.heap.size ≤ wo.heap.size := hB.size
    have b0 := (hB.block _ (by have := HSZ.out; omega)).trans HC0.out
    have b1 := (hB.block _ (by have := HSZ.out; omega)).trans HC1.out
    have b2 := (hB.block _ (by have := HSZ.out; omega)).trans HC2.out
    have hw1l : w.heap.size + 1 < wo.heap.size := by have := HSZ.out; omega
    have hw2l : w.heap.size + 1 + 1 < wo.heap.size := by have := HSZ.out; omega
    clear hrow hva hm
    by_cases hlt : i < n
    · have hltp : i < ps.length := by rw [← HNN.out]; exact hlt
      obtain ⟨g1, x0, y0, z0, e, _, e0, e1, e2, e3, hw, ty, a, gw, wcp, rfl, rfl, rfl, hrep, _, _⟩ := tmI.get HRR.out i hltp
      cases e
      have c0 := keep1 HBW.out e0
      have c1 := keep1 HBW.out e1
      have c2 := keep1 HBW.out e2
      have c3 := keep1 HBW.out e3
      clear e0 e1 e2 e3
      have hq := HPS.out (ps[i]) (List.getElem_mem hltp)
      have hkt := HK.out (ps[i]) (List.getElem_mem hltp)
      have HTK := Lib.hid (grfTm_take k ps qs hltp)
      obtain ⟨p, hp⟩ : ∃ p, p = ps[i] := ⟨_, rfl⟩
      rw [← hp] at c0 c2 c3 hw hrep hq hkt HTK
      obtain ⟨x, t⟩ := p
      simp only at c0 c2 c3 hw hrep hq hkt
      have HREPI : Hid (∀ W : World, Below w.heap.size w W → RepI W (fun b => P b ∧ b < w.heap.size) t ty a) := Lib.hid (fun W hb => hrep.below hw hb)
      obtain ⟨pl, hpl⟩ : ∃ pl, pl = (t.paths []).length := ⟨_, rfl⟩
      obtain ⟨tx, htx⟩ : ∃ tx, tx = t.text.toArray := ⟨_, rfl⟩
      rw [← hpl] at c2
      rw [← htx] at c3
      obtain ⟨d0, d1, _, _⟩ := two_cells b1
      have HB1 := Lib.hid b1
      clear hp hpl htx hrep hB b0 b1 b2
      go_wp2_with fail
      obtain ⟨w3, hw3⟩ : ∃ w3, w3 = wo.alloc (.cells #[.int .i64 x, .iface ty (.pointer (some a)), .slice (some ⟨gw, 0, none⟩) pl wcp, .string ⟨tx⟩] 82 (0, 0)) := ⟨_, rfl⟩
      have HB3 : Hid (Below wo.heap.size wo w3) := Lib.hid (by rw [hw3]; exact (Below.refl _ _).alloc (Nat.le_refl _) _)
      have HF3 : Hid (w3.heap[wo.heap.size]? = some (.cells #[.int .i64 x, .iface ty (.pointer (some a)), .slice (some ⟨gw, 0, none⟩) pl wcp, .string ⟨tx⟩] 82 (0, 0))) := Lib.hid (by rw [hw3]; exact heap_alloc_new wo _)
      have HS3 : Hid (w3.heap.size = wo.heap.size + 1) := Lib.hid (by rw [hw3]; simp)
      rw [← hw3]
      clear hw3
      go_loopw [7, 23] (fun ov jv wr => ∃ (j m : Nat) (va : Option Addr) (vc : Nat) (vs : List Value), j ≤ n' ∧ m = (grfTm k (ps.take i) qs ++ grfRow k (x, t) (qs.take j)).length ∧ va ≠ none ∧ jv = .int .i64 j ∧ ov = .slice va m vc ∧ Row (tmI.inn (fun b => (P b ∧ b < w.heap.size) ∨ w0.heap.size ≤ b)) 82 w0.heap.size (grfTm k (ps.take i) qs ++ grfRow k (x, t) (qs.take j)) (.slice va m vc) vs wr ∧ Below w0.heap.size w0 wr ∧
          wr.heap[wo.heap.size]? = some (.cells #[.int .i64 x, .iface ty (.pointer (some a)), .slice (some ⟨gw, 0, none⟩) pl wcp, .string ⟨tx⟩] 82 (0, 0)) ∧ (Value.slice va m vc).ownBlock ≠ some wo.heap.size ∧ wo.heap.size < wr.heap.size) (fun _ jv _ => n' - (intOf jv).toNat)
      case atStart =>
        refine ⟨0, m, va, vc, vs, Nat.zero_le _, by rw [List.take_zero, grfRow, List.map_nil, List.append_nil]; exact HM.out, HVA.out, rfl, rfl, by rw [List.take_zero, grfRow, List.map_nil, List.append_nil]; exact HROW.out.below HB3.out, below_step HB.out HB3.out, HF3.out, fun e => ?_, by have := HS3.out; omega⟩
        have := (HROW.out.own.lt _ e).2
        omega
      case round =>
        obtain ⟨j, m', va', vc', vs', hj, hm', hva', rfl, rfl, hrow', hB', hF', hob, hwol⟩ := hrel
        have HROW' := Lib.hid hrow'
        have HBi := Lib.hid hB'
        have HVA' := Lib.hid hva'
        have HM' := Lib.hid hm'
        have HF' := Lib.hid hF'
        have HOB := Lib.hid hob
        have HBWi := Lib.hid (below_step HB0.out hB')
        have hszi : w0.heap.size ≤ wr.heap.size := hB'.size
        clear hrow' hva' hm' hob hB'
        by_cases hltj : j < n'
        · have hltq : j < qs.length := by rw [← HNN'.out]; exact hltj
          obtain ⟨g2, x0', y0', z0', e, _, c0', c1', c2', c3', hw', ty', a', gw', wcp', rfl, rfl, rfl, hrep', _, _⟩ := tmI.get (HRQ.out.below (by decide) HBWi.out) j hltq
          cases e
          have hq' := HQS.out (qs[j]) (List.getElem_mem hltq)
          have HTJ := Lib.hid (grfRow_take k (x, t) qs hltq)
          obtain ⟨q, hqe⟩ : ∃ q, q = qs[j] := ⟨_, rfl⟩
          rw [← hqe] at c0' c2' c3' hw' hrep' hq' HTJ
          obtain ⟨x', u⟩ := q
          simp only at c0' c2' c3' hw' hrep' hq' HTJ
          obtain ⟨pl', hpl'⟩ : ∃ pl, pl = (u.paths []).length := ⟨_, rfl⟩
          obtain ⟨tx', htx'⟩ : ∃ tx, tx = u.text.toArray := ⟨_, rfl⟩
          rw [← hpl'] at c2'
          rw [← htx'] at c3'
          have h100 := Int.mul_le_mul_of_nonneg_right hq.2.2.2.2 (show 0 ≤ x' by omega)
          have h0 := Int.mul_nonneg (show 0 ≤ x by omega) (show 0 ≤ x' by omega)
          have hwr : IntKind.i64.wrap (x * x') = x * x' := by rw [IntKind.wrap_i64]; omega
          have HCH := Lib.hid (fun (W : World) (hb : Below wr.heap.size wr W) => graftOne_any t u k ty ty' a a' gw pl wcp gw' pl' wcp' kb tx tx' W (fun b => P b ∧ b < w.heap.size) hw hw' ⟨hq.2.1, hq.2.2.1⟩ ⟨hq'.2.1, hq'.2.2.1⟩ hkt (fun b h => Nat.lt_of_lt_of_le h.2 (below_step HBWi.out hb).size) (HREPI.out _ (below_step HBWi.out hb)) ((hrep'.below hw' hb)) (keep1 (below_step HBWi.out hb) HKB.out))
          have HBi0 := Lib.hid hF'
          clear hpl' htx' hrep' h100 h0 hF' hqe
          go_wp2_with fail
          obtain ⟨w5, hw5⟩ : ∃ w5, w5 = wr.alloc (.cells #[.int .i64 x', .iface ty' (.pointer (some a')), .slice (some ⟨gw', 0, none⟩) pl' wcp', .string ⟨tx'⟩] 82 (0, 0)) := ⟨_, rfl⟩
          rw [← hw5]
          have HB5 : Hid (Below wr.heap.size wr w5) := Lib.hid (by rw [hw5]; exact (Below.refl _ _).alloc (Nat.le_refl _) _)
          have hFq : w5.heap[wr.heap.size]? = some (.cells #[.int .i64 x', .iface ty' (.pointer (some a')), .slice (some ⟨gw', 0, none⟩) pl' wcp', .string ⟨tx'⟩] 82 (0, 0)) := by rw [hw5]; exact heap_alloc_new wr _
          have hFp : w5.heap[wo.heap.size]? = some (.cells #[.int .i64 x, .iface ty (.pointer (some a)), .slice (some ⟨gw, 0, none⟩) pl wcp, .string ⟨tx⟩] 82 (0, 0)) := (HB5.out.block _ hwol).trans HBi0.out
          have q0 : w5.cell? ⟨wr.heap.size, 0, none⟩ = some (.int .i64 x') := by rw [Lib.cell_of_heap hFq]; rfl
          have q1 : w5.cell? ⟨wr.heap.size, 1, none⟩ = some (.iface ty' (.pointer (some a'))) := by rw [Lib.cell_of_heap hFq]; rfl
          have q2 : w5.cell? ⟨wr.heap.size, 2, none⟩ = some (.slice (some ⟨gw', 0, none⟩) pl' wcp') := by rw [Lib.cell_of_heap hFq]; rfl
          have q3 : w5.cell? ⟨wr.heap.size, 3, none⟩ = some (.string ⟨tx'⟩) := by rw [Lib.cell_of_heap hFq]; rfl
          have p0 : w5.cell? ⟨wo.heap.size, 0, none⟩ = some (.int .i64 x) := by rw [Lib.cell_of_heap hFp]; rfl
          have p1 : w5.cell? ⟨wo.heap.size, 1, none⟩ = some (.iface ty (.pointer (some a))) := by rw [Lib.cell_of_heap hFp]; rfl
          have p2 : w5.cell? ⟨wo.heap.size, 2, none⟩ = some (.slice (some ⟨gw, 0, none⟩) pl wcp) := by rw [Lib.cell_of_heap hFp]; rfl
          have p3 : w5.cell? ⟨wo.heap.size, 3, none⟩ = some (.string ⟨tx⟩) := by rw [Lib.cell_of_heap hFp]; rfl
          have HFp := Lib.hid hFp
          have OWN := owns_below HROW'.out.own HB5.out
          rw [← HM'.out] at OWN
          have HOWN := Lib.hid OWN
          have hs5 : wr.heap.size < w5.heap.size := World.block_lt_of_cell? w5 _ q0
          have hml : m' ≤ 10000 := by
            rw [HM'.out, List.length_append, grfTm_length, grfRow_length, List.length_take, List.length_take]
            have h1 : min i ps.length ≤ 60 := by omega
            have h2 : qs.length ≤ 60 := by have := HNN'.out; omega
            have h3 := Nat.mul_le_mul h1 h2
            omega
          clear hw5 hFq hFp OWN c0 c1 c2 c3 c0' c1' c2' c3' d0 d1
          go_region_law (first
            | (refine step_append_lies _ (by rfl) _ _ 40 (by rfl) w0.heap.size 82 i0 (.agg #[.int .i64 0, .nilIface, .slice none 0 0, .string ⟨#[]⟩]) 4 64 Tryz.underlying40 hi0 hzz hzs hzb rfl (by decide) (.slice va' m' vc') m' vs' (by rfl) ((owns_below (World.ownsRow.drew HOWN.out) hb4).alloc (.cells #[.int .i64 (x * x'), rx, ry, rz] 82 (0, 0))) ⟨w4.heap.size, 0, none⟩ 1 1 [.int .i64 (x * x'), rx, ry, rz] (by rfl) (by rfl) (cells_four rfl _ _ _ _) HONE.out (by decide) (by unfold maxLen; omega) (by omega) (by simp; omega) (w4.heap.size + 1) (by simp) ?_; intro gg cap'' w6 hown4 hg4 hf4 hlt4)
            | (go_simp; go_at_call 33; refine (HCH.out _ (HB5.out.trans ((Below.refl _ _).drew.mono (Nat.le_of_lt hs5)))).mono ?_; rintro e w4 ⟨hb4, rx, ry, rz, rfl, hrk⟩; have y0 := keep1 (w := w5.drew) hb4 q0; have y1 := keep1 (w := w5.drew) hb4 p0; have HONE : Hid (∀ u ∈ [Value.int .i64 (x * x'), rx, ry, rz], u.oneCell' = true) := Lib.hid (one_rk hrk); have hs54 : w5.heap.size ≤ w4.heap.size := hb4.size))
          all_goals
            have HB4 : Hid (Below wr.heap.size wr w4) := Lib.hid (HB5.out.trans (((Below.refl _ _).drew.trans hb4).mono (Nat.le_of_lt hs5)))
            have hgwf := grf_wf (k := k) hw hw'
            have NX : Row (tmI.inn (fun b => (P b ∧ b < w.heap.size) ∨ w0.heap.size ≤ b)) 82 w0.heap.size (grfTm k (ps.take i) qs ++ grfRow k (x, t) (qs.take (j + 1))) (.slice (some ⟨gg, 0, none⟩) (m' + 1) cap'') (vs' ++ [.int .i64 (x * x'), rx, ry, rz]) w6 := by
              have h := HROW'.out.next (a := (x * x', grf k t u)) (w1 := w4) (w1' := w4.alloc (.cells #[.int .i64 (x * x'), rx, ry, rz] 82 (0, 0))) HB4.out ⟨_, _, _, rfl, hgwf, hrk.keep hgwf (fun _ _ _ h => h) (fun b hb _ => ⟨fun e => by
                have h1 := HROW'.out.own.lt b e
                have h2 := HSZ.out
                rcases hb with h | h
                · have h4 := h.2
                  omega
                · have h3 : w5.heap.size ≤ b := h
                  omega, by rcases hb with h | h; exact .inl h; exact .inr (by have h3 : w5.heap.size ≤ b := h; omega)⟩)⟩ ((Below.refl _ _).alloc (Nat.le_refl _) _) (by rw [← HM'.out]; exact hown4) hg4 (by rcases hf4 with h | h; exact .inl h; exact .inr (by first | omega | (simp at h; omega)))
              rw [← HM'.out] at h
              rw [HTJ.out, ← List.append_assoc]
              exact h
            have NXX := Lib.hid NX
            have HLM : Hid (m' + 1 = (grfTm k (ps.take i) qs ++ grfRow k (x, t) (qs.take (j + 1))).length) := Lib.hid (by rw [HTJ.out, ← List.append_assoc, List.length_append, ← HM'.out]; rfl)
            have BB := Lib.hid (((below_step HBi.out HB4.out).alloc (by omega) (.cells #[.int .i64 (x * x'), rx, ry, rz] 82 (0, 0))).grown hg4 (by simp; omega) (fun q e => by have := (HOWN.out.lt q e).1; omega))
            have hs6 := hg4.size
            have HF6 : Hid (w6.heap[wo.heap.size]? = some (.cells #[.int .i64 x, .iface ty (.pointer (some a)), .slice (some ⟨gw, 0, none⟩) pl wcp, .string ⟨tx⟩] 82 (0, 0))) := Lib.hid (by
              rw [hg4.block _ (by simp; omega) (fun e => HOB.out e.symm), Below.heap_alloc _ _ _ (by omega), hb4.block _ (by simp; omega)]
              exact HFp.out)
            have HO6 : Hid ((Value.slice (some ⟨gg, 0, none⟩) (m' + 1) cap'').ownBlock ≠ some wo.heap.size) := Lib.hid (fun e => by
              simp only [Value.ownBlock, Option.some.injEq] at e
              subst e
              rcases hf4 with h | h
              · exact HOB.out h
              · omega)
            have hs6' : wo.heap.size < w6.heap.size := by simp at hs6; omega
            clear NX hown4 hg4 hf4
            go_wp2_with fail
            go_roundw
            case rel => exact ⟨j + 1, m' + 1, some ⟨gg, 0, none⟩, cap'', _, by omega, HLM.out, by simp, by go_num, rfl, NXX.out, BB.out, HF6.out, HO6.out, hs6'⟩
            case measure => simp [intOf]; omega
        · have hjn : j = n' := by omega
          have HE : Hid (grfTm k (ps.take i) qs ++ grfRow k (x, t) (qs.take j) = grfTm k (ps.take (i + 1)) qs) := Lib.hid (by rw [HTK.out, hjn, HNN'.out, List.take_length])
          have HRX := HROW'.out
          have HMX := HM'.out
          rw [HE.out] at HRX HMX
          have HRX2 := Lib.hid HRX
          have HMX2 := Lib.hid HMX
          clear HRX HMX hF'
          go_wp2_with fail
          go_roundw
          case rel => exact ⟨i + 1, m', va', vc', vs', by omega, HMX2.out, HVA'.out, by go_num, rfl, HRX2.out, HBi.out⟩
          case measure => simp [intOf]; omega
    · have hin : i = n := by omega
      obtain ⟨gv, rfl, _⟩ := owns_addr HROW.out.own HVA.out
      have hRD : Rd tmI wo (fun b => (P b ∧ b < w.heap.size) ∨ w0.heap.size ≤ b) (some ⟨gv, 0, none⟩) (grfTm k (ps.take i) qs) := (HROW.out.rd.inn (fun g e h0 => .inr (HROW.out.rd_from g e h0)))
      have hmm := HM.out
      rw [hin, HNN.out, List.take_length] at hRD hmm
      have HRD := Lib.hid hRD
      have HMM := Lib.hid hmm
      have hml : m ≤ 10000 := by
        rw [hmm, grfTm_length]
        have h1 : ps.length ≤ 60 := by have := HNN.out; omega
        have h2 : qs.length ≤ 60 := by have := HNN'.out; omega
        have h3 := Nat.mul_le_mul h1 h2
        omega
      have HCB := Lib.hid (fun (W : World) (hb : Below wo.heap.size wo W) => combine_any (fun b => (P b ∧ b < w.heap.size) ∨ w0.heap.size ≤ b) (grfTm k ps qs) m HMM.out gv vc W (by omega) (grfTm_ok HPS.out HK.out HQS.out) (HRD.out.below (by decide) hb))
      obtain ⟨p0, p1, _, _⟩ := two_cells b0
      have HB2 := Lib.hid b2
      clear hRD b0 b1 b2 hB hmm
      go_wp2_with fail
      refine (HCB.out _ (Below.refl _ _)).mono ?_
      rintro e w5 ⟨hB5, g5, c5, rfl, hrd5⟩
      obtain ⟨r0, r1, fr0, fr1⟩ := two_cells ((hB5.block _ hw2l).trans HB2.out)
      have HB5 := Lib.hid (below_step HBW.out hB5)
      have HR5 := Lib.hid hrd5
      have HSR := Lib.hid hB5.size
      clear hB5 hrd5
      go_wp2_with fail
      refine bodyPost_ret (v := .agg #[(.func (.func 41) #[] #[]), .slice (some ⟨g5, 0, none⟩) (canon (grfTm k ps qs)).length c5]) (by simp [results, Tryz.results32, go_sem, r0, r1]) rfl ?_
      refine ⟨(HB5.out.setCell (p := ⟨w.heap.size + 1 + 1, 0, none⟩) (by simp; omega) _).setCell (p := ⟨w.heap.size + 1 + 1, 1, none⟩) (by simp; omega) _, g5, c5, rfl, ?_⟩
      refine HR5.out.keep (by decide) (fun q u hq hu => ?_) (fun b h _ => by
        have h2 := HSZ.out
        rcases h with (h | h) | h
        · exact .inl h.1
        · exact .inr (by omega)
        · exact .inr (by omega))
      have hne : q.block ≠ w.heap.size + 1 + 1 := by
        have h2 := HSZ.out
        rcases hq with (h | h) | h
        · have h4 := h.2
          omega
        · omega
        · omega
      rw [World.cell?_of_block (w := w5)]
      · exact hu
      · rw [Below.heap_setCell _ _ _ _ hne, Below.heap_setCell _ _ _ _ hne]
end Go.Proofs.YtdjcgakmeebijaaGreat
