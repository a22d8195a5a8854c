/- Is a tree free of patterns? By the program. -/
import Derived.Test.YtlmedcmheninaaaStandI
namespace Go.Proofs.Ytlmedcmheninaaa
open Go.RowKit Go.Shelf

attribute [local go_sem] Oper.semAt_some

theorem keepsFrom_of_below {B : Nat} {A C : World} (h : Below A.heap.size A C) : KeepsFrom B A C := ⟨h.size, fun k _ _ hk _ => (h.block k (Array.getElem?_eq_some_iff.1 hk).1).trans hk⟩

set_option maxRecDepth 100000 in
set_option maxHeartbeats 4000000 in
theorem isFree_any (ps : List T) (t : T) (np gp cp : Nat) (hnp : np = ps.length) (hn100 : np ≤ 100) (ty : TypeId) (a : Addr) (w : World)
    (hps : Rd patI w (fun b => b < w.heap.size) (some ⟨gp, 0, none⟩) ps) (hpb : ∀ p ∈ ps, p.leaves ≤ 100) (htw : t.wf) (htl : t.leaves ≤ 12 ∧ t.nodes ≤ 16) (hrt : RepI w (fun b => b < w.heap.size) t ty a) :
    Calls Try.prog 90 #[.slice (some ⟨gp, 0, none⟩) np cp, .iface ty (.pointer (some a))] w (fun e w' => Below w.heap.size w w' ∧ e = .returned (.bool (stAll ps t).isEmpty)) := by
  refine (callsIn_wide (n := 9)).1 ?_
  refine callsIn_of_wp_marks Try.func90 rfl trivial ?_ rfl
  simp only [Try.ntmps90, List.size_toArray, List.length_cons, List.length_nil, Nat.reduceAdd, Nat.reduceSub, Array.replicate_succ, Array.replicate_zero, List.push_toArray, List.append_toArray, List.nil_append, List.cons_append]
  have HPS := Lib.hid hps
  have HPB := Lib.hid hpb
  have HRT := Lib.hid hrt
  have HNP := Lib.hid hnp
  clear hps hpb hrt hnp
  gi_wp2_with (refine ⟨trivial, ?_⟩; gi_at_call 85; refine (callsIn_wide.2 (standings_any gp np cp ty a _)).mono ?_; rintro e w' ⟨rfl, rfl⟩)
  have d0 := cell_new' w (.bool false) 4
  have d1 := cell_new' (w.alloc (.cells #[.bool false] 4)) (.slice (some ⟨gp, 0, none⟩) np cp) 126
  have d2 := cell_new' ((w.alloc (.cells #[.bool false] 4)).alloc (.cells #[.slice (some ⟨gp, 0, none⟩) np cp] 126)) (.iface ty (.pointer (some a))) 91
  simp only [World.size_alloc] at d1 d2
  have hB0 : Below w.heap.size w (((w.alloc (.cells #[.bool false] 4)).alloc (.cells #[.slice (some ⟨gp, 0, none⟩) np cp] 126)).alloc (.cells #[.iface ty (.pointer (some a))] 91)) := (((Below.refl _ w).alloc (Nat.le_refl _) _).alloc (by simp) _).alloc (by simp; omega) _
  have hsz : (((w.alloc (.cells #[.bool false] 4)).alloc (.cells #[.slice (some ⟨gp, 0, none⟩) np cp] 126)).alloc (.cells #[.iface ty (.pointer (some a))] 91)).heap.size = w.heap.size + 3 := by simp
  have c0 := cell_alloc' (.cells #[.iface ty (.pointer (some a))] 91) (cell_alloc' (.cells #[.slice (some ⟨gp, 0, none⟩) np cp] 126) d0.1)
  have f0 := frozen_alloc' (.cells #[.iface ty (.pointer (some a))] 91) (cell_alloc' (.cells #[.slice (some ⟨gp, 0, none⟩) np cp] 126) d0.1) (frozen_alloc' (.cells #[.slice (some ⟨gp, 0, none⟩) np cp] 126) d0.1 d0.2)
  have c1 := cell_alloc' (.cells #[.iface ty (.pointer (some a))] 91) d1.1
  obtain ⟨W0, hW0⟩ : ∃ W0, ((w.alloc (.cells #[.bool false] 4)).alloc (.cells #[.slice (some ⟨gp, 0, none⟩) np cp] 126)).alloc (.cells #[.iface ty (.pointer (some a))] 91) = W0 := ⟨_, rfl⟩
  rw [hW0] at d2 hB0 hsz c0 f0 c1 ⊢
  clear hW0 d0 d1
  refine wpIn_rangeFunc_ownB rfl (by omega) (gf := 129) (lb := #[.pointer (some ⟨w.heap.size + 1 + 1, 0, none⟩), .pointer (some ⟨w.heap.size + 1, 0, none⟩)]) rfl trivial (enters_of Try.func129 (by kernel_rfl) rfl)
    (n₀ := w.heap.size) (Br := 0) (R0 := fun _ => False) (by omega)
    (standings_stops (9 - 1) (by omega) (w.heap.size + 1 + 1) (w.heap.size + 1) w W0 w.heap.size 0 W0.heap.size ps t np gp cp HNP.out hn100 ty a (fun i hi => by
      obtain ⟨g', b, e, hg, hc, h1, h2⟩ := patI.get HPS.out i hi
      cases e
      exact ⟨b, (hB0.cell (p := ⟨gp, i, none⟩) hg).trans hc, h1, h2⟩) (Nat.zero_le _) HPB.out htw htl HRT.out d2.1 c1 rfl hB0 (Nat.le_refl _) (Nat.zero_le _))
    (Below.refl _ _) (fun _ => rfl) (fun _ h => h.elim)
    (fun pre _ V => pre = [] ∧ V.cell? ⟨w.heap.size, 0, none⟩ = some (.bool false) ∧ V.frozen? ⟨w.heap.size, 0, none⟩ = false ∧ Below w.heap.size w V)
    (fun c pre V => c = .ret ∧ pre ≠ [] ∧ V.cell? ⟨w.heap.size, 0, none⟩ = some (.bool false) ∧ Below w.heap.size w V)
    (fun pre _ A C row hs hg hr => by
      obtain ⟨h1, h2, h3, h4⟩ := hs
      have hlt : w.heap.size < A.heap.size := World.block_lt_of_cell? A ⟨w.heap.size, 0, none⟩ h2
      have hbl : C.heap[w.heap.size]? = A.heap[w.heap.size]? := hg.block _ hlt (fun e => by have := (hr _ e.symm).1; omega)
      exact ⟨h1, (World.cell?_of_block (w := A) (by exact hbl)).trans h2, (frozen_same (A := A) (by exact hbl)).trans h3, h4.grown hg (by omega) (fun k e => by have := (hr k e).1; omega)⟩)
    (fun c pre A C row hs hg hr => by
      obtain ⟨h1, h2, h3, h4⟩ := hs
      have hlt : w.heap.size < A.heap.size := World.block_lt_of_cell? A ⟨w.heap.size, 0, none⟩ h3
      have hbl : C.heap[w.heap.size]? = A.heap[w.heap.size]? := hg.block _ hlt (fun e => by have := (hr _ e.symm).1; omega)
      exact ⟨h1, h2, (World.cell?_of_block (w := A) (by exact hbl)).trans h3, h4.grown hg (by omega) (fun k e => by have := (hr k e).1; omega)⟩)
    ⟨rfl, c0, f0, hB0⟩
    (fun x a' _ => a' = { tmps := #[.slice (some ⟨gp, 0, none⟩) np cp, .iface ty (.pointer (some a)), undef, undef, .pointer (some ⟨w.heap.size, 0, none⟩), .slice (some ⟨gp, 0, none⟩) np cp, .iface ty (.pointer (some a)), .func (.func 129) #[] #[.pointer (some ⟨w.heap.size + 1 + 1, 0, none⟩), .pointer (some ⟨w.heap.size + 1, 0, none⟩)], (.agg #[.int .i64 x.i, .int .i64 x.at', .slice (some ⟨x.g, 0, none⟩) x.ts.length x.cap])], defers := [] })
    (fun _ _ _ _ _ _ hs _ _ => hs)
    ?assign ?body ?done ?stop
  case assign =>
    rintro l pre _ x V K hi _ _ hK
    gi_wp2
    exact hK _ _ (Below.refl _ _) hi (by simp [StA.enc])
  case body =>
    rintro l pre _ x a' V _ _ ⟨rfl, hc, hf, hB⟩ rfl _
    have HB := Lib.hid hB
    clear hB
    gi_wp2
    exact ⟨(KeepsOthers.setCell _ _ _).from _, rfl, by simp, World.cell?_setCell_same' _ _ _ (by rw [hc]; rfl), HB.out.setCell (p := ⟨w.heap.size, 0, none⟩) (Nat.le_refl _) _⟩
  case done =>
    rintro D ys _ V hD hys ⟨rfl, hc, hf, hB⟩ hK
    have HE : Hid ((stAll ps t).isEmpty = true) := Lib.hid (by rw [← hys]; rfl)
    have HB := Lib.hid hB
    clear hB hys
    gi_wp2
    have hK' := (KeepsOthers.setCell V ⟨w.heap.size, 0, none⟩ (.bool true)).same D _ hK rfl
    refine ⟨by simp, .inl ⟨_, _, rfl, run_takeDeferred hK', ?_⟩⟩
    have hc5 := cell_kept (World.cell?_setCell_same' V ⟨w.heap.size, 0, none⟩ (.bool true) (by rw [hc]; rfl)) (grownBy_putObj' _ D (.deferred none)) (fun r e => by cases e; exact ⟨_, hK', rfl⟩)
    refine ⟨.bool true, ?_, (HB.out.setCell (p := ⟨w.heap.size, 0, none⟩) (Nat.le_refl _) _).trans (belowK_b (w := w) (Nat.le_refl _) _ D _ _ (by omega) hK' rfl rfl), by rw [HE.out]⟩
    simp [results, Try.f90, go_sem, hc5]
  case stop =>
    rintro D c pre V hD hpre ⟨rfl, hne, hc, hB⟩ hK
    have HE : Hid ((stAll ps t).isEmpty = false) := Lib.hid (by
      obtain ⟨rest, hrest⟩ := hpre
      rw [← hrest]
      cases pre with
      | nil => exact absurd rfl hne
      | cons x xs => rfl)
    have HB := Lib.hid hB
    clear hB hpre hne
    gi_wp2
    refine ⟨by simp, .inl ⟨_, _, rfl, run_takeDeferred hK, ?_⟩⟩
    have hc5 := cell_kept hc (grownBy_putObj' _ D (.deferred none)) (fun r e => by cases e; exact ⟨_, hK, rfl⟩)
    refine ⟨.bool false, ?_, HB.out.trans (belowK_b (w := w) (Nat.le_refl _) V D _ _ (by omega) hK rfl rfl), by rw [HE.out]⟩
    simp [results, Try.f90, go_sem, hc5]
end Go.Proofs.Ytlmedcmheninaaa
