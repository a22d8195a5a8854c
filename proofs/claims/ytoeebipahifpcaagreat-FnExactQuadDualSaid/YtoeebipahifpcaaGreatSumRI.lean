/- The program ranks trees, compares them, and reads a sum. -/
import Derived.Test.YtoeebipahifpcaaGreatSumR
import Derived.Test.YtoeebipahifpcaaGreatOrdG
import Derived.Test.YtoeebipahifpcaaGreatKReadA
import Derived.Deep.CutRange
import Derived.Deep.CutBlock
namespace Go.Proofs.YtoeebipahifpcaaGreat
open Go.RowKit

/-- What 'rank' answers. -/
def RankPost (P : Nat → Prop) (t : T) (w : World) (e : Ending) (w' : World) : Prop :=
  Below w.heap.size w w' ∧ ∃ x y z, e = .returned (.agg #[x, y, z]) ∧ RkI w' (fun b => P b ∨ w.heap.size ≤ b) t x y z

set_option maxRecDepth 100000 in
set_option maxHeartbeats 1000000 in
theorem rank_any (t : T) (ty : TypeId) (a : Addr) (w : World) (P : Nat → Prop) (hw : t.wf) (hl : t.leaves ≤ 1000) (hn : t.nodes ≤ 1000) (hr : RepI w P t ty a) :
    Calls Tryz.prog 64 #[.iface ty (.pointer (some a))] w (RankPost P t w) := by
  have hb1 : Below w.heap.size w (w.alloc (.cells #[.nilIface, .slice none 0 0, .string ⟨#[]⟩] 117)) := (Below.refl _ _).alloc (Nat.le_refl _) _
  have HB1 := Lib.hid hb1
  have HR := Lib.hid hr
  have HK := Lib.hid (orderKeyOf_any t ty a (w.alloc (.cells #[.nilIface, .slice none 0 0, .string ⟨#[]⟩] 117)) P hw hl hn (hr.below hw hb1))
  clear hb1 hr
  go_enter Tryz.func64, Tryz.ntmps64
  go_wp2_with fail
  refine HK.out.mono ?_
  rintro e w1 ⟨hB1, g, cap, rfl, hl1, hg⟩
  have HB1' := Lib.hid hB1
  have hzz : w1.heap[w.heap.size]? = some (.cells #[.nilIface, .slice none 0 0, .string ⟨#[]⟩] 117 (0, 0)) := (hB1.block _ (by simp)).trans (heap_alloc_new w _)
  have r0 : w1.cell? ⟨w.heap.size, 0, none⟩ = some .nilIface := by rw [Lib.cell_of_heap hzz]; rfl
  have r1 : w1.cell? ⟨w.heap.size, 1, none⟩ = some (.slice none 0 0) := by rw [Lib.cell_of_heap hzz]; rfl
  have r2 : w1.cell? ⟨w.heap.size, 2, none⟩ = some (.string ⟨#[]⟩) := by rw [Lib.cell_of_heap hzz]; rfl
  have f0 : w1.frozen? ⟨w.heap.size, 0, none⟩ = false := Lib.frozen_of_heap hzz _
  have f1 : w1.frozen? ⟨w.heap.size, 1, none⟩ = false := Lib.frozen_of_heap hzz _
  have f2 : w1.frozen? ⟨w.heap.size, 2, none⟩ = false := Lib.frozen_of_heap hzz _
  have hzl : w.heap.size < w1.heap.size := World.block_lt_of_cell? w1 _ r0
  have HL := Lib.hid hl1
  have HG := Lib.hid hg
  clear hB1 hl1 hg hzz
  go_wp2_with fail
  refine bodyPost_ret (v := .agg #[.iface ty (.pointer (some a)), .slice (some ⟨g, 0, none⟩) (t.paths []).length cap, .string ⟨t.text.toArray⟩]) (by simp [results, Tryz.results64, go_sem, r0, r1, r2]) rfl ?_
  have hBf : Below w.heap.size w (((w1.setCell ⟨w.heap.size, 0, none⟩ (.iface ty (.pointer (some a)))).setCell ⟨w.heap.size, 1, none⟩ (.slice (some ⟨g, 0, none⟩) (t.paths []).length cap)).setCell ⟨w.heap.size, 2, none⟩ (.string ⟨t.text.toArray⟩)) :=
    (((below_step HB1.out HB1'.out).setCell (by simp) _).setCell (by simp) _).setCell (by simp) _
  refine ⟨hBf, _, _, _, rfl, ty, a, g, cap, rfl, rfl, rfl, (HR.out.below hw hBf).keep (fun _ _ _ h => h) (fun _ h _ => .inl h) hw, .inr (by have := HG.out; simp at this; omega), fun j hj => ?_⟩
  obtain ⟨g', e, hc⟩ := HL.out j hj
  cases e
  refine ⟨g, rfl, ?_⟩
  have hgw : g ≠ w.heap.size := by have := HG.out; simp at this; omega
  rw [World.cell?_of_block (w := w1)]
  · exact hc
  · rw [Below.heap_setCell _ _ _ _ hgw, Below.heap_setCell _ _ _ _ hgw, Below.heap_setCell _ _ _ _ hgw]

set_option maxRecDepth 100000 in
set_option maxHeartbeats 1000000 in
theorem descending_grew (t u : T) (P : Nat → Prop) (x y z x' y' z' : Value) (w : World) (hl : t.leaves ≤ 1000) (hul : u.leaves ≤ 1000) (hr : RkI w P t x y z) (hru : RkI w P u x' y' z') :
    Calls Tryz.prog 66 #[.agg #[x, y, z], .agg #[x', y', z']] w (AnsG (.int .i64 (ordT u t)) w) := by
  obtain ⟨ty, a, g, wc, rfl, rfl, rfl, _, _, hl1⟩ := hr
  obtain ⟨ty', a', g', wc', rfl, rfl, rfl, _, _, hl2⟩ := hru
  have hpl : (t.paths []).length ≤ 1000000 := by rw [paths_length]; omega
  have hul : (u.paths []).length ≤ 1000000 := by rw [paths_length]; omega
  obtain ⟨n, hn⟩ : ∃ n, n = (t.paths []).length := ⟨_, rfl⟩
  obtain ⟨m, hm⟩ : ∃ m, m = (u.paths []).length := ⟨_, rfl⟩
  have HC := fun (W : World) (hb : Below w.heap.size w W) => compare_grew (u.paths []) (t.paths []) m n hm hn u.text t.text (some ⟨g', 0, none⟩) (some ⟨g, 0, none⟩) wc' wc W (by omega) (by omega) (hl2.below hb) (hl1.below hb)
  rw [← hn, ← hm]
  have HO : Hid (ordCmp (u.paths []) u.text (t.paths []) t.text = ordT u t) := Lib.hid rfl
  obtain ⟨zz, hzz⟩ : ∃ zz, zz = ordCmp (u.paths []) u.text (t.paths []) t.text := ⟨_, rfl⟩
  rw [← hzz] at HC
  have HZ : Hid (ordT u t = zz) := Lib.hid (by rw [← HO.out, hzz])
  have HC := Lib.hid HC
  obtain ⟨s1, hs1⟩ : ∃ s1, s1 = t.text := ⟨_, rfl⟩
  obtain ⟨s2, hs2⟩ : ∃ s2, s2 = u.text := ⟨_, rfl⟩
  rw [← hs1, ← hs2] at HC ⊢
  clear hl1 hl2 hpl hul hn hm hzz hs1 hs2
  go_enter Tryz.func66, Tryz.ntmps66
  go_wp2_with fail
  refine (HC.out _ (((Below.refl _ _).alloc (Nat.le_refl _) _).alloc (by simp) _)).mono ?_
  rintro e w1 ⟨rfl, hG⟩
  go_wp2_with fail
  go_ret
  exact ⟨by rw [HZ.out]; rfl, (((Grew.refl _).alloc _).alloc _).trans hG⟩

/-- The leaves of a tree behind an interface, counted where nothing is made. -/
def LvI (W : World) (ty : TypeId) (a : Addr) (L : Nat) : Prop :=
  (ty = 106 ∧ ∀ n, Calls Tryz.prog 143 #[.pointer (some a)] (W.drewN n) fun e w' => e = .returned (.int .i64 (L : Int)) ∧ w' = W.drewN n) ∨
  (ty = 105 ∧ ∀ n, Calls Tryz.prog 137 #[.pointer (some a)] (W.drewN n) fun e w' => e = .returned (.int .i64 (L : Int)) ∧ w' = W.drewN n)

theorem LvI.of {W : World} {P : Nat → Prop} {t : T} {ty : TypeId} {a : Addr} (hw : t.wf) (hl : t.leaves < 1000000) (hr : RepI W P t ty a) : LvI W ty a t.leaves := by
  cases t with
  | leaf =>
    rw [RepI] at hr
    exact .inl ⟨hr, fun n => (leafLeaves_any a _).mono fun e w' h => ⟨by rw [h.1]; rfl, h.2.symm⟩⟩
  | node c ks =>
    have hty : ty = 105 := by have := hr; rw [RepI] at this; exact this.1
    have hwk := hw
    rw [T.wf] at hwk
    refine .inr ⟨hty, fun n => ?_⟩
    rw [T.leaves] at hl ⊢
    exact (nodeLeaves_any _ c ks _ a _ P (Nat.le_refl _) hwk.2.2.2.2 hl (hr.below hw (below_drewN (Below.refl _ _) n))).mono (fun e w' h => ⟨by rw [h.1]; simp, h.2.symm⟩)

theorem infoPt : (Tryz.prog.info? 120).map (fun i => (i.zero, i.size, i.bytes)) = some (some (.agg #[.int .i64 0, .nilIface, .slice none 0 0, .string ⟨#[]⟩]), 4, 64) := by kernel_rfl

theorem cells_four {w : World} {n : Nat} {t : TypeId} (hn : n = w.heap.size) (x y z u : Value) :
    ∀ (j : Nat) (v : Value), [x, y, z, u][j]? = some v → (w.alloc (.cells #[x, y, z, u] t)).cell? ((⟨n, 0, none⟩ : Addr).add j) = some v := by
  intro j v h
  have e : (⟨n, 0, none⟩ : Addr).add j = ⟨n, j, none⟩ := by unfold Addr.add; split <;> simp_all
  rw [e, World.cell?_alloc_at _ _ _ _ hn]
  simpa using h

theorem methLeaf (a : Addr) (w : World) : (method 308 106 (.pointer (some a)) "loop.example/operadtrees/impl.leaves").run Tryz.prog w = .ok (143, .pointer (some a)) w := by kernel_rfl
theorem methNode (a : Addr) (w : World) : (method 308 105 (.pointer (some a)) "loop.example/operadtrees/impl.leaves").run Tryz.prog w = .ok (137, .pointer (some a)) w := by kernel_rfl

/-- What 'readTerms' answers. -/
def RTm (lo hi : Int) (xs : List (Int × ByteArray)) (w : World) (e : Ending) (w' : World) : Prop :=
  Below w.heap.size w w' ∧ ((termsOf lo hi xs = none ∧ e = .returned (.tuple #[.slice none 0 0, .bool false])) ∨
    ∃ ps g c, termsOf lo hi xs = some ps ∧ e = .returned (.tuple #[.slice (some ⟨g, 0, none⟩) ps.length c, .bool true]) ∧ Rd tmI w' (fun b => w.heap.size ≤ b) (some ⟨g, 0, none⟩) ps)

set_option maxRecDepth 100000 in
set_option maxHeartbeats 4000000 in
theorem readTerms_any (lo hi : Int) (xs : List (Int × ByteArray)) (n : Nat) (hnx : n = xs.length) (g cap : Nat) (w : World) (hn : n ≤ 1048576) (hz : ∀ j (h : j < xs.length), (xs[j]).2.size ≤ 1048576) (hl : TermL w g xs) :
    Calls Tryz.prog 85 #[.slice (some ⟨g, 0, none⟩) n cap, .int .i64 lo, .int .i64 hi] w (RTm lo hi xs w) := by
  have HL := Lib.hid hl
  have HZ := Lib.hid hz
  have HNN := Lib.hid hnx
  clear hl hz hnx
  obtain ⟨i0, hi0, hzz, hzs, hzb⟩ := info_parts infoPt
  by_cases h60 : n ≤ 60
  · have HT : Hid (termsOf lo hi xs = rdAll lo hi false xs) := Lib.hid (by rw [termsOf, if_neg (by have := HNN.out; omega)])
    go_enter Tryz.func85, Tryz.ntmps85
    go_wp2_with fail
    go_loopw [8, 19] (fun ov iv wr => ∃ (ps : List Tm) (k : Nat) (va : Option Addr) (vc : Nat) (vs : List Value), k = ps.length ∧ k ≤ n ∧ va ≠ none ∧ iv = .int .i64 k ∧ ov = .slice va k vc ∧ rdAll lo hi false (xs.take k) = some ps ∧ Row (tmI.inn (fun b => w.heap.size ≤ b)) 120 w.heap.size ps (.slice va k vc) vs wr ∧ Below w.heap.size w wr) (fun _ iv _ => n - (intOf iv).toNat)
    case atStart =>
      refine ⟨[], 0, some ⟨w.heap.size, 0, none⟩, 0, [], rfl, Nat.zero_le _, by simp, rfl, rfl, rfl, ?_, (Below.refl _ _).alloc (Nat.le_refl _) _⟩
      exact ⟨World.ownsRow_made w #[] 0 (Nat.le_refl _) (by simp [maxLen]) rfl, fun _ h => by simp at h⟩
    case round =>
      obtain ⟨ps, k, va, vc, vs, hkp, hk, hva, rfl, rfl, hrd, hrow, hB⟩ := hrel
      have HKP := Lib.hid hkp
      have HVA := Lib.hid hva
      clear hva
      have HRD := Lib.hid hrd
      have HROW := Lib.hid hrow
      have HB := Lib.hid hB
      by_cases hlt : k < n
      · have hltx : k < xs.length := by rw [← HNN.out]; exact hlt
        obtain ⟨c0, c1⟩ := (HL.out.below hB) k hltx
        have hzk := HZ.out k hltx
        obtain ⟨s, hs⟩ : ∃ s, s = (xs[k]).2 := ⟨_, rfl⟩
        obtain ⟨x, hx⟩ : ∃ x, x = (xs[k]).1 := ⟨_, rfl⟩
        rw [← hs] at c1 hzk
        rw [← hx] at c0
        have HS := Lib.hid hs
        have HX := Lib.hid hx
        have HP := Lib.hid (readTree_any s (wr.alloc (.cells #[.int .i64 x, .string s] 73 (0, 0))) (by omega))
        have HBA := Lib.hid (hB.alloc hB.size (.cells #[.int .i64 x, .string s] 73 (0, 0)))
        have hbx := heap_alloc_new wr (.cells #[.int .i64 x, .string s] 73 (0, 0))
        obtain ⟨b0, b1, _, _⟩ := two_cells hbx
        have HBX := Lib.hid hbx
        clear hkp hrd hrow hB hs hx hbx
        go_wp2_with fail
        refine HP.out.mono ?_
        rintro e w1 ⟨hB1, hres⟩
        have HB1 := Lib.hid hB1
        have HBB := Lib.hid (below_step HBA.out hB1)
        have d0 := keep1 hB1 b0
        clear b0 b1 hB1
        rcases hres with ⟨hno, rfl⟩ | ⟨t, ty, a, hyes, rfl, hrep⟩
        · have HN : Hid (termsOf lo hi xs = none) := Lib.hid (by rw [HT.out, rd_no_tree hltx (by rw [← HS.out]; exact hno)])
          clear hno
          go_wp2_with fail
          go_ret2
          exact ⟨HBB.out, .inl ⟨HN.out, rfl⟩⟩
        · have HY := Lib.hid hyes
          obtain ⟨hw, htx, htl, htn⟩ := parse_some hyes
          have HBR := Lib.hid (below_step (Below.refl wr.heap.size wr) (below_step ((Below.refl _ _).alloc (Nat.le_refl _) (.cells #[.int .i64 x, .string s] 73 (0, 0))) HB1.out))
          have HREP : Hid (RepI w1 (fun b => wr.heap.size ≤ b) t ty a) := Lib.hid (hrep.keep (fun _ _ _ h => h) (fun b h _ => by simp at h; omega) hw)
          clear hyes hrep htx
          by_cases hx1 : lo ≤ x
          · by_cases hx2 : x ≤ hi
            · have e1 : decide (x < lo) = false := decide_eq_false (by omega)
              have e2 : decide (hi < x) = false := decide_eq_false (by omega)
              have HX12 := Lib.hid (show lo ≤ x ∧ x ≤ hi from ⟨hx1, hx2⟩)
              have HLV := Lib.hid (LvI.of hw (by omega) HREP.out)
              have hrd2 := HROW.out.rd.of_inn.below (by decide) HBR.out
              obtain ⟨L, hL⟩ : ∃ L, L = t.leaves := ⟨_, rfl⟩
              rw [← hL] at HLV
              have HLL := Lib.hid hL
              clear hL
              go_upto_region 10 with fail
              go_cut [56] from 43 to 56 (fun bv wx => ∃ (b : Bool) (nq : Nat), bv = .bool b ∧ fitsHd ps t = !b ∧ wx = w1.drewN nq)
              case first =>
                by_cases hk0 : k = 0
                · have hd : decide (0 < k) = false := decide_eq_false (by omega)
                  have HK0 : Hid (fitsHd ps t = true) := Lib.hid (by
                    have hps : ps = [] := List.length_eq_zero_iff.1 (by have := HKP.out; omega)
                    rw [hps]; rfl)
                  clear hk0
                  go_wp2_with fail
                  go_quiet (fail)
                  go_wp2_with fail
                  go_meet
                  exact ⟨false, nq, rfl, by rw [HK0.out]; rfl, rfl⟩
                · have hd : decide (0 < k) = true := decide_eq_true (by omega)
                  have hkpos : 0 < k := by omega
                  have hp0 : 0 < ps.length := by have := HKP.out; omega
                  obtain ⟨gv, x0, y0, z0, rfl, _, _, y1, _, _, hyw, hyr⟩ := tmI.get hrd2 0 hp0
                  obtain ⟨ty0, a0, g0, wc0, rfl, _, _, hr0, _, _⟩ := hyr
                  rw [Nat.zero_mul, Nat.zero_add] at y1
                  have hOK := (rdAll_ok _ _ _ rfl HRD.out).2.1.tree (ps[0]) (List.getElem_mem hp0)
                  have hLV0 := LvI.of hyw (by omega) hr0
                  obtain ⟨M, hM⟩ : ∃ M, M = (ps[0]).2.leaves := ⟨_, rfl⟩
                  rw [← hM] at hLV0
                  have HFH : Hid (fitsHd ps t = decide (L = M)) := Lib.hid (by rw [fitsHd_get hp0, HLL.out, hM])
                  have HLV0 := Lib.hid hLV0
                  clear hM hr0 hrd2 hOK hLV0
                  have hm1 := methLeaf
                  have hm2 := methNode
                  rcases HLV.out with ⟨rfl, hc⟩ | ⟨rfl, hc⟩
                  all_goals
                    have HC := Lib.hid hc
                    clear hc
                    rcases HLV0.out with ⟨rfl, hc0⟩ | ⟨rfl, hc0⟩
                    all_goals
                      have HC0 := Lib.hid hc0
                      clear hc0
                      by_cases hLM : L = M
                      · subst hLM
                        go_wp2_with fail
                        go_quiet ((first
                          | ((go_at_call 143; with_reducible exact Calls.quiet_of_same (HC.out _)))
                          | ((go_at_call 137; with_reducible exact Calls.quiet_of_same (HC.out _)))
                          | ((go_at_call 143; with_reducible exact Calls.quiet_of_same (HC0.out _)))
                          | ((go_at_call 137; with_reducible exact Calls.quiet_of_same (HC0.out _)))))
                        go_wp2_with fail
                        go_meet
                        exact ⟨false, nq, rfl, by rw [HFH.out]; simp, rfl⟩
                      · have hLM1 : (L == M) = false := by simpa using hLM
                        have hLM2 : (L != M) = true := by simpa using hLM
                        have hLM3 : ((L : Int) == (M : Int)) = false := by simp; omega
                        have hLM4 : ((L : Int) != (M : Int)) = true := by simp; omega
                        have HLM := Lib.hid hLM
                        clear hLM
                        go_wp2_with fail
                        go_quiet ((first
                          | ((go_at_call 143; with_reducible exact Calls.quiet_of_same (HC.out _)))
                          | ((go_at_call 137; with_reducible exact Calls.quiet_of_same (HC.out _)))
                          | ((go_at_call 143; with_reducible exact Calls.quiet_of_same (HC0.out _)))
                          | ((go_at_call 137; with_reducible exact Calls.quiet_of_same (HC0.out _)))))
                        go_wp2_with fail
                        go_meet
                        exact ⟨true, nq, rfl, by rw [HFH.out, decide_eq_false HLM.out]; rfl, rfl⟩
              case rest =>
                obtain ⟨b, nq, rfl, hfb, rfl⟩ := hcut
                have HFB := Lib.hid hfb
                clear hfb hrd2
                cases b with
                | true =>
                  have HN : Hid (termsOf lo hi xs = none) := Lib.hid (by
                    rw [HT.out]
                    exact rd_no_fit hltx HRD.out (by rw [← HS.out]; exact HY.out) (by rw [fits, HFB.out]; simp))
                  go_wp2_with fail
                  go_ret2
                  exact ⟨below_drewN HBB.out nq, .inl ⟨HN.out, rfl⟩⟩
                | false =>
                  have HNX : Hid (rdAll lo hi false (xs.take (k + 1)) = some (ps ++ [(x, t)])) := Lib.hid (by
                    have := rd_fit hltx HRD.out (by rw [← HS.out]; exact HY.out) (by
                      rw [← HX.out, fits, decide_eq_true HX12.out.1, decide_eq_true HX12.out.2, HFB.out]; rfl)
                    rw [← HX.out] at this
                    exact this)
                  obtain ⟨W, hW⟩ : ∃ W, W = w1.drewN nq := ⟨_, rfl⟩
                  have HBW : Hid (Below wr.heap.size wr W) := Lib.hid (by rw [hW]; exact below_drewN HBR.out nq)
                  have e0 : W.cell? ⟨wr.heap.size, 0, none⟩ = some (.int .i64 x) := by rw [hW]; exact d0
                  have HRK : Hid (Calls Tryz.prog 64 #[.iface ty (.pointer (some a))] W.drew (RankPost (fun b => wr.heap.size ≤ b) t W.drew)) := Lib.hid (rank_any t ty a W.drew _ hw (by omega) (by omega) (HREP.out.below hw (by rw [hW]; exact (below_drewN (Below.refl _ _) nq).drew)))
                  have e0' : W.drew.cell? ⟨wr.heap.size, 0, none⟩ = some (.int .i64 x) := e0
                  rw [← hW]
                  have OWN := owns_below HROW.out.own (HBW.out.drew)
                  rw [← HKP.out] at OWN
                  have HOWN := Lib.hid OWN
                  have hszW : w.heap.size ≤ W.drew.heap.size := Nat.le_trans HB.out.size HBW.out.size
                  clear hW d0 OWN
                  go_wp2_with fail
                  go_region_law (first
                    | (refine step_append_lies _ (by rfl) _ _ 104 (by rfl) w.heap.size 120 i0 (.agg #[.int .i64 0, .nilIface, .slice none 0 0, .string ⟨#[]⟩]) 4 64 Tryz.underlying104 hi0 hzz hzs hzb rfl (by decide) (.slice va k vc) k vs (by rfl) ((owns_below HOWN.out hb3).alloc (.cells #[.int .i64 x, rx, ry, rz] 120 (0, 0))) ⟨w3.heap.size, 0, none⟩ 1 1 [.int .i64 x, rx, ry, rz] (by rfl) (by rfl) (cells_four rfl _ _ _ _) HONE.out (by decide) (by unfold maxLen; omega) (by omega) (Nat.le_trans hszW (Nat.le_trans hb3.size (by simp))) (w3.heap.size + 1) (by simp) ?_; intro gg cap' w4 hown4 hg4 hf4 hlt4)
                    | (go_simp; go_at_call 64; refine HRK.out.mono ?_; rintro e w3 ⟨hb3, rx, ry, rz, rfl, hrk⟩; have HONE : Hid (∀ u ∈ ([.int .i64 x, rx, ry, rz] : List Value), u.oneCell' = true) := Lib.hid (tmI.one (a := (x, t)) ⟨rx, ry, rz, rfl, hw, hrk⟩); have e3 := keep1 (w := W.drew) hb3 e0'; have HRKK := Lib.hid hrk; clear hrk))
                  all_goals
                    have hs4 := hg4.size
                    have hb3' : Below W.heap.size W w3 := (Below.refl _ _).drew.trans hb3
                    have NX : Row (tmI.inn (fun b => w.heap.size ≤ b)) 120 w.heap.size (ps ++ [(x, t)]) (.slice (some ⟨gg, 0, none⟩) (k + 1) cap') (vs ++ [.int .i64 x, rx, ry, rz]) w4 := by
                      have h := HROW.out.next (a := (x, t)) (w1 := w3) (w1' := w3.alloc (.cells #[.int .i64 x, rx, ry, rz] 120 (0, 0))) (below_step HBW.out hb3') ⟨rx, ry, rz, rfl, hw, HRKK.out.keep hw (fun _ _ _ h => h) (fun b hb _ => ⟨fun e => by
                        have h1 := (HROW.out.own.lt b e).2
                        have h2 := HBW.out.size
                        rcases hb with h | h
                        · omega
                        · have h3 : W.heap.size ≤ b := h
                          omega, by
                        have h1 := HB.out.size
                        have h2 := HBW.out.size
                        rcases hb with h | h
                        · omega
                        · have h3 : W.heap.size ≤ b := h
                          omega⟩)⟩ ((Below.refl _ _).alloc (Nat.le_refl _) _) (by rw [← HKP.out]; exact hown4) hg4 (by rcases hf4 with h | h; exact .inl h; exact .inr (by omega))
                      rw [← HKP.out] at h
                      exact h
                    have NXX := Lib.hid NX
                    have BB := Lib.hid (((below_step (below_step HB.out HBW.out) hb3').alloc (Nat.le_trans hszW hb3.size) (.cells #[.int .i64 x, rx, ry, rz] 120 (0, 0))).grown hg4 (Nat.le_trans hszW (Nat.le_trans hb3.size (by simp))) (fun q e => by have := (HOWN.out.lt q e).1; omega))
                    clear NX hown4 hg4 hf4 hb3 hb3' e3
                    go_wp2_with fail
                    go_roundw
                    case rel => exact ⟨ps ++ [(x, t)], k + 1, some ⟨gg, 0, none⟩, cap', _, by rw [List.length_append]; have := HKP.out; simp; omega, by omega, by simp, by go_num, rfl, HNX.out, NXX.out, BB.out⟩
                    case measure => simp [intOf]; omega
            · have e1 : decide (x < lo) = false := decide_eq_false (by omega)
              have e2 : decide (hi < x) = true := decide_eq_true (by omega)
              have HN : Hid (termsOf lo hi xs = none) := Lib.hid (by
                rw [HT.out]
                exact rd_no_fit hltx HRD.out (by rw [← HS.out]; exact HY.out) (by rw [← HX.out, fits, decide_eq_false hx2]; simp))
              go_wp2_with fail
              go_ret2
              exact ⟨HBB.out, .inl ⟨HN.out, rfl⟩⟩
          · have e1 : decide (x < lo) = true := decide_eq_true (by omega)
            have HN : Hid (termsOf lo hi xs = none) := Lib.hid (by
              rw [HT.out]
              exact rd_no_fit hltx HRD.out (by rw [← HS.out]; exact HY.out) (by rw [← HX.out, fits, decide_eq_false hx1]; simp))
            go_wp2_with fail
            go_ret2
            exact ⟨HBB.out, .inl ⟨HN.out, rfl⟩⟩
      · have hkn : k = n := by omega
        subst hkn
        have HR : Hid (termsOf lo hi xs = some ps) := Lib.hid (by
          have := HRD.out
          rw [HNN.out, List.take_length] at this
          rw [HT.out, this])
        obtain ⟨gv, rfl, _⟩ := owns_addr hrow.own HVA.out
        have HRR := Lib.hid (hrow.rd.inn (fun g e h0 => hrow.rd_from g e h0))
        clear hkp hrd hrow
        go_wp2_with fail
        go_ret2
        exact ⟨HB.out, .inr ⟨ps, gv, vc, HR.out, by rw [← HKP.out]; rfl, HRR.out⟩⟩
  · have HT : Hid (termsOf lo hi xs = none) := Lib.hid (by rw [termsOf, if_pos (by have := HNN.out; omega)])
    go_enter Tryz.func85, Tryz.ntmps85
    go_wp2_with fail
    go_ret2
    exact ⟨Below.refl _ _, .inl ⟨HT.out, rfl⟩⟩
end Go.Proofs.YtoeebipahifpcaaGreat
