/- The program adds two sums: combine at nil, plus, addSums, SumAdd. -/
import Derived.Test.YtipodlckehodnaaConcI
import Derived.Test.YtipodlckehodnaaTwoSums
import Derived.Test.YtipodlckehodnaaBndI
namespace Go.Proofs.Ytipodlckehodnaa
open Go.RowKit

theorem cloneNil_any (w : World) :
    Calls Try.prog 91 #[.slice none 0 0] w fun e w' => e = .returned (.slice none 0 0) ∧ w = w' := by
  have hnil : (binOp .eql 63 (.slice none 0 0) (.slice none 0 0)).run Try.prog w = .ok (.bool true) w := by
    simp only [binOp]
    simp [Op.equal, Op.maxDepth, Lib.run_equalIn_slice_nil w 9999 63 130 none 0 0 0 0 Try.underlying63]
  go_enter Try.func91, Try.ntmps91
  go_wp2_with fail
  go_ret
  exact ⟨rfl, rfl⟩

set_option maxRecDepth 100000 in
set_option maxHeartbeats 2000000 in
theorem combineNil_any (P : Nat → Prop) (w : World) :
    Calls Try.prog 56 #[(.func (.func 57) #[] #[]), .slice none 0 0] w (CombPost P [] w) := by
  obtain ⟨w0, hw0⟩ : ∃ w0, w0 = (w.alloc (.cells #[(.func (.func 57) #[] #[])] 62 (0, 0))).alloc (.cells #[.nilFunc, .slice none 0 0] 65 (0, 0)) := ⟨_, rfl⟩
  have HB0 : Hid (Below w.heap.size w w0) := Lib.hid (by rw [hw0]; exact ((Below.refl _ _).alloc (Nat.le_refl _) _).alloc (by simp) _)
  have hX : w0.heap[w.heap.size]? = some (.cells #[(.func (.func 57) #[] #[])] 62 (0, 0)) := by
    rw [hw0, Below.heap_alloc _ _ _ (by simp)]; exact heap_alloc_new w _
  have hR : w0.heap[w.heap.size + 1]? = some (.cells #[.nilFunc, .slice none 0 0] 65 (0, 0)) := by
    rw [hw0]
    have := heap_alloc_new (w.alloc (.cells #[(.func (.func 57) #[] #[])] 62 (0, 0))) (.cells #[.nilFunc, .slice none 0 0] 65 (0, 0))
    simpa using this
  have hsz : w0.heap.size = w.heap.size + 1 + 1 := by rw [hw0]; simp
  have x0 : w0.cell? ⟨w.heap.size, 0, none⟩ = some (.func (.func 57) #[] #[]) := by rw [Lib.cell_of_heap hX]; rfl
  obtain ⟨r0, r1, fr0, fr1⟩ := two_cells hR
  have hcon := AnyF.slices_SortFunc_none Try.sortPt none 0 (.func (.func 93) #[] #[.pointer (some ⟨w.heap.size, 0, none⟩)]) w0
  change Calls Try.prog 92 _ _ _ at hcon
  have HS := Lib.hid hcon
  have HW0 := Lib.hid hw0
  have hlt0 : w.heap.size < w0.heap.size := by omega
  have hlt1 : w.heap.size + 1 < w0.heap.size := by omega
  have HSZ := Lib.hid hsz
  have HR0 := Lib.hid hR
  have HX0 := Lib.hid hX
  clear hcon hw0 hsz hX hR
  go_enter Try.func56, Try.ntmps56
  go_wp2_with fail
  rw [← HW0.out]
  refine (cloneNil_any _).mono ?_
  rintro e w1 ⟨rfl, rfl⟩
  go_wp2_with fail
  refine HS.out.mono ?_
  rintro e w2 ⟨rfl, rfl⟩
  go_wp2_with fail
  go_loopw [6, 7] (fun ov iv wr => ov = .slice (some ⟨w2.heap.size, 0, none⟩) 0 0 ∧ iv = .int .i64 0 ∧ Below w2.heap.size w2 wr) (fun _ _ _ => 0)
  case atStart => exact ⟨rfl, rfl, (Below.refl _ _).alloc (Nat.le_refl _) _⟩
  case round =>
    obtain ⟨rfl, rfl, hB⟩ := hrel
    have HB := Lib.hid hB
    have x0' := keep1 hB x0
    obtain ⟨q0, q1, f0, f1⟩ := two_cells ((hB.block _ hlt1).trans HR0.out)
    have hszr := hB.size
    clear hB
    go_wp2_with fail
    refine bodyPost_ret (v := .agg #[(.func (.func 57) #[] #[]), .slice (some ⟨w2.heap.size, 0, none⟩) 0 0]) (by simp [results, Try.results56, go_sem, q0, q1]) rfl ?_
    exact ⟨((below_step HB0.out HB.out).setCell (p := ⟨w.heap.size + 1, 0, none⟩) (by simp) _).setCell (p := ⟨w.heap.size + 1, 1, none⟩) (by simp) _, w2.heap.size, 0, rfl, Rd.nil⟩

/-- 'combine' of what 'Concat' answers. -/
theorem combineOf_any (P : Nat → Prop) (ps : List Tm) (n : Nat) (hn : n = ps.length) (va : Option Addr) (c : Nat) (w : World) (hn2 : n ≤ 100000) (hps : ∀ p ∈ ps, p.2.wf ∧ p.2.leaves ≤ 1000 ∧ p.2.nodes ≤ 1000 ∧ -1000000 ≤ p.1 ∧ p.1 ≤ 1000000)
    (h : (n = 0 ∧ va = none ∧ c = 0) ∨ ∃ g, va = some ⟨g, 0, none⟩ ∧ Rd tmI w P va ps) :
    Calls Try.prog 56 #[(.func (.func 57) #[] #[]), .slice va n c] w (CombPost P ps w) := by
  rcases h with ⟨h1, rfl, rfl⟩ | ⟨g, rfl, hr⟩
  · rw [h1] at hn
    rw [List.length_eq_zero_iff.1 hn.symm, h1]
    exact combineNil_any P w
  · exact combine_any P ps n hn g c w hn2 hps hr
theorem cell_put_two {w : World} {q : Nat} {p : Addr} {v : Value} (h : w.cell? p = some v) (hne : p.block ≠ q) (x y : Value) : ((w.setCell ⟨q, 0, none⟩ x).setCell ⟨q, 1, none⟩ y).cell? p = some v := by
  rw [World.cell?_of_block (w := w)]
  · exact h
  · rw [Below.heap_setCell _ _ _ _ hne, Below.heap_setCell _ _ _ _ hne]

set_option maxRecDepth 100000 in
set_option maxHeartbeats 2000000 in
/-- 'plus': the sum of two sums. -/
theorem plus_any (P : Nat → Prop) (ps qs : List Tm) (n n' : Nat) (hn : n = ps.length) (hn' : n' = qs.length) (g c g' c' : Nat) (w : World) (hn2 : n ≤ 10000) (hn2' : n' ≤ 10000) (hps : ∀ p ∈ ps ++ qs, p.2.wf ∧ p.2.leaves ≤ 1000 ∧ p.2.nodes ≤ 1000 ∧ -1000000 ≤ p.1 ∧ p.1 ≤ 1000000) (hr : Rd tmI w P (some ⟨g, 0, none⟩) ps) (hr' : Rd tmI w P (some ⟨g', 0, none⟩) qs) :
    Calls Try.prog 97 #[.agg #[(.func (.func 57) #[] #[]), .slice (some ⟨g, 0, none⟩) n c], .agg #[(.func (.func 57) #[] #[]), .slice (some ⟨g', 0, none⟩) n' c']] w (CombPost P (ps ++ qs) w) := by
  obtain ⟨w0, hw0⟩ : ∃ w0, w0 = ((w.alloc (.cells #[(.func (.func 57) #[] #[]), .slice (some ⟨g, 0, none⟩) n c] 65 (0, 0))).alloc (.cells #[(.func (.func 57) #[] #[]), .slice (some ⟨g', 0, none⟩) n' c'] 65 (0, 0))).alloc (.cells #[.nilFunc, .slice none 0 0] 65 (0, 0)) := ⟨_, rfl⟩
  have hB0 : Below w.heap.size w w0 := by rw [hw0]; exact (((Below.refl _ _).alloc (Nat.le_refl _) _).alloc (by simp) _).alloc (by simp; omega) _
  have hA : w0.heap[w.heap.size]? = some (.cells #[(.func (.func 57) #[] #[]), .slice (some ⟨g, 0, none⟩) n c] 65 (0, 0)) := by
    rw [hw0, Below.heap_alloc _ _ _ (by simp; omega), Below.heap_alloc _ _ _ (by simp)]; exact heap_alloc_new w _
  have hBx : w0.heap[w.heap.size + 1]? = some (.cells #[(.func (.func 57) #[] #[]), .slice (some ⟨g', 0, none⟩) n' c'] 65 (0, 0)) := by
    rw [hw0, Below.heap_alloc _ _ _ (by simp)]
    have := heap_alloc_new (w.alloc (.cells #[(.func (.func 57) #[] #[]), .slice (some ⟨g, 0, none⟩) n c] 65 (0, 0))) (.cells #[(.func (.func 57) #[] #[]), .slice (some ⟨g', 0, none⟩) n' c'] 65 (0, 0))
    simpa using this
  have hR : w0.heap[w.heap.size + 1 + 1]? = some (.cells #[.nilFunc, .slice none 0 0] 65 (0, 0)) := by
    rw [hw0]
    have := heap_alloc_new ((w.alloc (.cells #[(.func (.func 57) #[] #[]), .slice (some ⟨g, 0, none⟩) n c] 65 (0, 0))).alloc (.cells #[(.func (.func 57) #[] #[]), .slice (some ⟨g', 0, none⟩) n' c'] 65 (0, 0))) (.cells #[.nilFunc, .slice none 0 0] 65 (0, 0))
    simpa using this
  have hsz : w0.heap.size = w.heap.size + 1 + 1 + 1 := by rw [hw0]; simp
  obtain ⟨a0, a1, _, _⟩ := two_cells hA
  obtain ⟨_, b1, _, _⟩ := two_cells hBx
  obtain ⟨N, hN⟩ : ∃ N, N = n + n' := ⟨_, rfl⟩
  have HNN : Hid (N = (ps ++ qs).length) := Lib.hid (by rw [List.length_append]; omega)
  have hN2 : N ≤ 20000 := by omega
  have HCC := Lib.hid (fun (W : World) (hb : Below w0.heap.size w0 W) (a : Nat) (h0 : W.cell? ⟨a, 0, none⟩ = some (.slice (some ⟨g, 0, none⟩) n c)) (h1 : W.cell? ⟨a, 1, none⟩ = some (.slice (some ⟨g', 0, none⟩) n' c')) => by
    have h := concat_any (fun b => P b ∧ b < w.heap.size) ps qs n n' hn hn' a g c g' c' W (by omega) (by omega) h0 h1 (((hr.weak (P' := fun b => P b ∧ b < w.heap.size) (by decide) (fun _ h h' => ⟨h, h'⟩)).below (by decide) hB0).below (by decide) hb) (((hr'.weak (P' := fun b => P b ∧ b < w.heap.size) (by decide) (fun _ h h' => ⟨h, h'⟩)).below (by decide) hB0).below (by decide) hb)
    rw [← hN] at h
    exact h)
  have HCB := Lib.hid (fun (Q : Nat → Prop) (va : Option Addr) (c : Nat) (W : World) h => combineOf_any Q (ps ++ qs) N HNN.out va c W (by omega) hps h)
  have hl0 : w.heap.size < w0.heap.size := by omega
  have hl1 : w.heap.size + 1 < w0.heap.size := by omega
  have hl2 : w.heap.size + 1 + 1 < w0.heap.size := by omega
  have HW0 := Lib.hid hw0
  have HB0 := Lib.hid hB0
  have HSZ := Lib.hid hsz
  have HR := Lib.hid hR
  have V0 := fun (o : Obj) => (⟨keep1 ((Below.refl w0.heap.size w0).alloc (Nat.le_refl _) o) a0, keep1 ((Below.refl w0.heap.size w0).alloc (Nat.le_refl _) o) a1, keep1 ((Below.refl w0.heap.size w0).alloc (Nat.le_refl _) o) b1⟩ : (w0.alloc o).cell? ⟨w.heap.size, 0, none⟩ = some (.func (.func 57) #[] #[]) ∧ (w0.alloc o).cell? ⟨w.heap.size, 1, none⟩ = some (.slice (some ⟨g, 0, none⟩) n c) ∧ (w0.alloc o).cell? ⟨w.heap.size + 1, 1, none⟩ = some (.slice (some ⟨g', 0, none⟩) n' c'))
  have HBX0 := Lib.hid (((Below.refl w0.heap.size w0).alloc (Nat.le_refl _) (.cells #[.slice (some ⟨g, 0, none⟩) n c, .slice (some ⟨g', 0, none⟩) n' c'] 63 (0, 0))).drew)
  clear hr hr' hps hn hn' hN hw0 hB0 hA hBx hR hsz
  go_enter Try.func97, Try.ntmps97
  go_wp2_with fail
  rw [← HW0.out]
  go_region_held3 (fun w' => w'.cell? ⟨w.heap.size, 0, none⟩ = some (.func (.func 57) #[] #[]) ∧ w'.cell? ⟨w.heap.size, 1, none⟩ = some (.slice (some ⟨g, 0, none⟩) n c) ∧ w'.cell? ⟨w.heap.size + 1, 1, none⟩ = some (.slice (some ⟨g', 0, none⟩) n' c'))
    (first | exact ⟨a0, a1, b1⟩ | exact V0 _ | exact ⟨p0, p1, p2⟩ | exact ⟨q0, q1, q2⟩ | exact ⟨cell_put_two q0 (show w.heap.size ≠ w.heap.size + 1 + 1 by omega) _ _, cell_put_two q1 (show w.heap.size ≠ w.heap.size + 1 + 1 by omega) _ _, cell_put_two q2 (show w.heap.size + 1 ≠ w.heap.size + 1 + 1 by omega) _ _⟩)
    (first
    | (go_at_call 123; refine (HCC.out _ HBX0.out _ (cells_two rfl _ _ 0 _ rfl) (cells_two rfl _ _ 1 _ rfl)).mono ?_; rintro e w5 ⟨hB5, va, vc, rfl, hres⟩; have hb5 := HBX0.out.trans (hB5.mono HBX0.out.size); have p0 := keep1 hb5 a0; have p1 := keep1 hb5 a1; have p2 := keep1 hb5 b1; have HB5 := Lib.hid hb5; have HCX := Lib.hid (HCB.out _ va vc w5 hres); clear hB5 hb5 hres)
    | (go_at_call 56; refine HCX.out.mono ?_; rintro e w6 ⟨hB6, g6, c6, rfl, hr6⟩; have hb6 := HB5.out.trans (hB6.mono HB5.out.size); obtain ⟨r0, r1, fr0, fr1⟩ := two_cells ((hb6.block _ hl2).trans HR.out); have q0 := keep1 hb6 a0; have q1 := keep1 hb6 a1; have q2 := keep1 hb6 b1; have HB6 := Lib.hid hb6; have HR6 := Lib.hid hr6; have hs6 := hb6.size; have hs5 := HB5.out.size; clear hB6 hb6 hr6))
  go_wp2_with fail
  refine bodyPost_ret (v := .agg #[(.func (.func 57) #[] #[]), .slice (some ⟨g6, 0, none⟩) (canon (ps ++ qs)).length c6]) (by simp [results, Try.results97, go_sem, r0, r1]) rfl ?_
  refine ⟨((below_step HB0.out HB6.out).setCell (p := ⟨w.heap.size + 1 + 1, 0, none⟩) (by simp; omega) _).setCell (p := ⟨w.heap.size + 1 + 1, 1, none⟩) (by simp; omega) _, g6, c6, rfl, ?_⟩
  have h2 := HSZ.out
  refine HR6.out.keep (by decide) (fun q u hq hu => ?_) (fun b h _ => by
    rcases h with (h | h) | h
    · exact .inl h.1
    · exact .inr (by simp at h; omega)
    · exact .inr (by omega))
  have hne : q.block ≠ w.heap.size + 1 + 1 := by
    rcases hq with (h | h) | h
    · omega
    · simp at h; omega
    · omega
  exact cell_put_two hu hne _ _
end Go.Proofs.Ytipodlckehodnaa
