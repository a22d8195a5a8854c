/- The dimension of a face by the program. -/
import Derived.Test.YtbbkaephlojalaaFaceI
import Derived.Test.YtbbkaephlojalaaKStand
namespace Go.Proofs.Ytbbkaephlojalaa
open Go.RowKit Go.Shelf

attribute [local go_sem] Oper.semAt_some

/-- The degree of a part's first node. -/
def T.deg : T → Int
  | .leaf => 0
  | .node _ ks => (ks.length : Int) - 2

def degS (ts : List T) : Int := (ts.map T.deg).sum
theorem degS_append (a b : List T) : degS (a ++ b) = degS a + degS b := by simp [degS]
theorem degS_snoc (a : List T) (t : T) : degS (a ++ [t]) = degS a + t.deg := by simp [degS]
mutual
theorem degS_subs : ∀ (t : T), degS t.subs = t.dim
  | .leaf => by simp [degS, T.subs, T.dim]
  | .node c ks => by
    have h := degS_subsL ks
    simp only [T.subs, T.dim, ← h]
    simp [degS, T.deg]
theorem degS_subsL : ∀ (ks : List T), degS (T.subsL ks) = T.dimL ks
  | [] => by simp [degS, T.subsL, T.dimL]
  | k :: ks => by rw [T.subsL, degS_append, degS_subs k, degS_subsL ks, T.dimL]
end

theorem deg_small {t : T} (h : t.wf) : -2 ≤ t.deg ∧ t.deg ≤ 4 := by
  cases t with
  | leaf => simp [T.deg]
  | node c ks => rw [T.wf] at h; rw [T.deg]; omega

theorem NodeT.node {w0 : World} {n₀ : Nat} (x : NodeT w0 n₀) : ∃ g m cap : Nat, m ≤ 6 ∧ x.t.deg = (m : Int) - 2 ∧ w0.cell? ⟨x.b, 1, none⟩ = some (.slice (some ⟨g, 0, none⟩) m cap) := by
  have h := x.rep
  cases ht : x.t with
  | leaf => rw [ht, RepI] at h; exact absurd h (by decide)
  | node c ks =>
    rw [ht, RepI] at h
    obtain ⟨_, b, g, cap, e, _, _, _, h1, h6, _⟩ := h
    cases e
    exact ⟨g, ks.length, cap, h6, rfl, h1⟩

set_option maxRecDepth 100000 in
set_option maxHeartbeats 4000000 in
theorem degrees_any (t : T) (ty : TypeId) (a : Addr) (g cap : Nat) (w : World) (P : Nat → Prop) (hw : t.wf) (hs : t.leaves ≤ 12 ∧ t.nodes ≤ 16) (hc : w.cell? ⟨g, 0, none⟩ = some (.iface ty (.pointer (some a)))) (hr : RepI w P t ty a) :
    Calls Try.prog 26 #[.slice (some ⟨g, 0, none⟩) 1 cap] w (Ans (.int .i64 t.dim) w) := by
  have hr' := hr.keep (P' := fun g => g < w.heap.size) (fun _ _ _ h => h) (fun _ _ h => h) hw
  obtain ⟨xs, hxk, hv⟩ := visitT_any w (fun b => b < w.heap.size) w.heap.size (fun _ h => h) _ t ty a (Nat.le_refl _) hw hs hr'
  have hxl : xs.length ≤ 16 := by
    have h1 : (xs.map NodeT.t).length = t.subs.length := by rw [hxk]
    rw [List.length_map, subs_length] at h1; omega
  have HXK := Lib.hid hxk
  have hgl := World.block_lt_of_cell? w _ hc
  simp only at hgl
  clear hr hr' hxk
  refine (callsIn_wide (n := 4)).1 ?_
  refine callsIn_of_wp_marks Try.func26 rfl trivial ?_ rfl
  simp only [Try.ntmps26, List.size_toArray, List.length_cons, List.length_nil, Nat.reduceAdd, Nat.reduceSub, Array.replicate_succ, Array.replicate_zero, List.push_toArray, List.append_toArray, List.nil_append, List.cons_append]
  gi_wp2_with (fail)
  refine wpIn_loop_rounds 2 ?_
  rw [roundsIn_succ]
  gi_wp2_with (refine ⟨trivial, ?_⟩; gi_at_call 41; refine (nodesOf_in Fence.wide _ trivial rfl _ _ _).mono ?_; rintro e w' ⟨rfl, rfl⟩)
  have c1 := cell_new' w (.int .i64 0) 3
  have c2 := cell_new' (w.alloc (.cells #[.int .i64 0] 3)) (.iface ty (.pointer (some a))) 34
  simp only [World.size_alloc] at c2
  have hB0 : Below w.heap.size w ((w.alloc (.cells #[.int .i64 0] 3)).alloc (.cells #[.iface ty (.pointer (some a))] 34)) := ((Below.refl _ w).alloc (Nat.le_refl _) _).alloc (by simp) _
  refine wpIn_rangeFunc_ownF rfl (by omega) (gf := 53) (lb := #[.pointer (some ⟨w.heap.size + 1, 0, none⟩)]) rfl trivial (enters_of Try.func53 (by kernel_rfl) rfl)
    (nodesT_stops Fence.wide rfl (4 - 1) trivial trivial rfl (w.heap.size + 1) w w.heap.size xs ty a _ (by simp) (by simp; omega) hB0 c2.1 hv) belowK_t (belowK_b (by simp; omega)) (Below.refl _ _) (fun _ => rfl)
    (fun pre W => (W.cell? ⟨w.heap.size, 0, none⟩ = some (.int .i64 (degS (pre.map NodeT.t))) ∧ W.frozen? ⟨w.heap.size, 0, none⟩ = false ∧ (∀ y ∈ pre, y.t.wf)) ∧ Below w.heap.size w W)
    (fun _ _ _ => False)
    (OwnFrom.and (Own.from (fun s A B row hs hg hr => ⟨cell_kept hs.1 hg hr, (frozen_kept hs.1 hg hr).trans hs.2.1, hs.2.2⟩) _) (ownFrom_below (Nat.le_refl _) (by simp; omega)))
    (fun c s A B row hs hg hr => hs)
    ⟨⟨cell_alloc' _ c1.1, frozen_alloc' _ c1.1 c1.2, by simp⟩, hB0⟩
    (fun x => { tmps := #[.slice (some ⟨g, 0, none⟩) 1 cap, undef, .int .i64 0, .pointer (some ⟨w.heap.size, 0, none⟩), undef, .iface ty (.pointer (some a)), .pointer (some ⟨x.b, 0, none⟩), .slice (some ⟨g, 0, none⟩) 1 cap, .int .i64 1, .int .i64 0, .bool true, .pointer (some ⟨g, 0, none⟩), .iface ty (.pointer (some a)), .iface ty (.pointer (some a)), .func (.func 53) #[] #[.pointer (some ⟨w.heap.size + 1, 0, none⟩)], .pointer (some ⟨x.b, 0, none⟩), undef, undef, undef, undef, undef, undef], defers := [] }) ?assign ?body ?done ?stop
  case assign =>
    intro l x W K hK
    gi_wp2
    exact hK
  case body =>
    rintro l pre x W ⟨⟨hcr, hfr, hpw⟩, hB⟩ hlen
    obtain ⟨g', m, cap', hm6, hdeg, hx1⟩ := x.node
    have y1 := (hB.cell (p := ⟨x.b, 1, none⟩) x.hb).trans hx1
    have hbd : ∀ (l : List (NodeT w w.heap.size)), (∀ y ∈ l, y.t.wf) → -2 * (l.length : Int) ≤ degS (l.map NodeT.t) ∧ degS (l.map NodeT.t) ≤ 4 * (l.length : Int) := fun l hl => by
      induction l with
      | nil => simp [degS]
      | cons y l ih =>
        have h1 := ih (fun z hz => hl z (by simp [hz]))
        have h2 := deg_small (hl y (by simp))
        simp only [degS, List.map_cons, List.sum_cons, List.length_cons] at h1 ⊢
        omega
    have h9 := hbd pre hpw
    obtain ⟨d, hd⟩ : ∃ d, d = degS (pre.map NodeT.t) := ⟨_, rfl⟩
    rw [← hd] at hcr h9
    have hd1 : -2000 ≤ d ∧ d ≤ 2000 := by omega
    have HD : Hid (degS ((pre ++ [x]).map NodeT.t) = d + ((m : Int) - 2)) := Lib.hid (by rw [List.map_append, List.map_cons, List.map_nil, degS_snoc, ← hd, hdeg])
    have HPW : Hid (∀ y ∈ pre ++ [x], y.t.wf) := Lib.hid (fun y hy => by
      rcases List.mem_append.1 hy with h | h
      · exact hpw y h
      · simp only [List.mem_singleton] at h; subst h; exact y.hw)
    have HB := Lib.hid hB
    have hw1 : IntKind.i64.wrap (d + ((m : Int) - 2)) = d + ((m : Int) - 2) := IntWalk.i64_in _ (by omega)
    have HDG := Lib.hid (fun W' => degree_any x.b m cap' g' W' (by omega))
    clear hbd hpw hd hdeg hx1 hB h9
    gi_wp2
    gi_region_with ((refine ⟨trivial, ?_⟩; gi_at_call 42; refine (CallsIn.inRound l (callsIn_wide.2 (HDG.out _ (by exact y1)))).mono ?_; rintro e w' ⟨rfl, rfl⟩))
    all_goals
      gi_wp2
      refine ⟨(KeepsOthers.setCell _ _ _).trans (keeps_drewN _ 1), ((Below.refl w.heap.size W).setCell (p := ⟨w.heap.size, 0, none⟩) (Nat.le_refl _) _).drew, ⟨?_, ?_, HPW.out⟩, (HB.out.setCell (p := ⟨w.heap.size, 0, none⟩) (Nat.le_refl _) _).drew⟩
      · rw [HD.out]
        exact World.cell?_setCell_same' W ⟨w.heap.size, 0, none⟩ _ (by rw [hcr]; rfl)
      · show (W.setCell _ _).frozen? _ = false
        rw [World.frozen?_setCell]
        exact hfr
  case done =>
    rintro D ys W hD rfl ⟨⟨hcr, hfr, _⟩, hB⟩ hK
    have HE : Hid (degS (ys.map NodeT.t) = t.dim) := Lib.hid (by rw [HXK.out, degS_subs])
    rw [HE.out] at hcr
    have HB := Lib.hid hB
    clear hB
    gi_wp2
    rw [roundsIn_succ]
    gi_wp2
    refine ⟨by simp, .inl ⟨_, _, rfl, run_takeDeferred hK, ?_⟩⟩
    refine ⟨.int .i64 t.dim, ?_, rfl, HB.out.trans (belowK_b (w := w) (Nat.le_refl _) W D _ _ (by simp at hD; omega) hK rfl rfl)⟩
    simp [results, Try.f26, go_sem]
  case stop =>
    rintro D c pre W hD hpre hf hK
    exact hf.elim

set_option maxHeartbeats 1000000 in
theorem iFaceDim_any (s : ByteArray) (w : World) (hs : s.size ≤ 140737488351232) :
    Calls Try.prog 12 #[.string s] w (Ans (.int .i64 (faceDimOf (faceOf s.data.toList))) w) := by
  have HP := Lib.hid (readFace_any s w hs)
  go_enter Try.func12, Try.ntmps12
  go_wp2_with fail
  refine HP.out.mono ?_
  rintro e w1 ⟨hB, ⟨hno, v, rfl⟩ | ⟨t, ty, a, hyes, rfl, hrep⟩⟩
  · have HN := Lib.hid hno
    clear hno
    go_wp2_with fail
    go_ret
    exact ⟨by rw [HN.out]; rfl, hB⟩
  · have hp := faceOf_some.1 hyes
    have hp1 := parse_some hp.1
    have HN := Lib.hid hyes
    have HD := Lib.hid (degrees_any t ty a w1.heap.size 1 (w1.alloc (.cells #[.iface ty (.pointer (some a))] 34)) _ hp1.1 hp1.2.2 (cell_new' _ _ _).1 (hrep.below hp1.1 ((Below.refl _ _).alloc (Nat.le_refl _) _)))
    have HB := Lib.hid hB
    clear hyes hp hp1 hB
    go_wp2_with fail
    refine HD.out.mono ?_
    rintro e w2 ⟨rfl, hB2⟩
    have HB2 := Lib.hid hB2
    clear hB2
    go_wp2_with fail
    go_ret
    exact ⟨by rw [HN.out]; rfl, below_step (HB.out.alloc HB.out.size _) HB2.out⟩

end Go.Proofs.Ytbbkaephlojalaa
