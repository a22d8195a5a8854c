/- Merged out of: XConcI, XPlusI, XAddI, XAddJ. -/
import Derived.Test.YtapobhnhnldlkaaGreatKComb
import Derived.Lib.AppendZerosOnto
import Derived.Lib.Walk
import Derived.Test.YtapobhnhnldlkaaGreatTwoSums
import Derived.Test.YtapobhnhnldlkaaGreatKBndX
import Derived.Deep.RegionHeld3
import Derived.Test.YtapobhnhnldlkaaGreatAddS
section
/- The program lays two rows of parts behind each other: slices.Grow at nil, slices.Concat of two. -/
namespace Go.Proofs.YtapobhnhnldlkaaGreat
open Go.RowKit

/-- A new row of no elements, with room. -/
def GrowPost (n : Nat) (w : World) (e : Ending) (w' : World) : Prop :=
  Below w.heap.size w w' ∧ ∃ va c, e = .returned (.slice va 0 c) ∧ w'.ownsRow w.heap.size 87 4 (.slice va 0 c) 0 [] ∧ (n = 0 → va = none ∧ c = 0) ∧ (0 < n → va ≠ none)

/-- What stands in the cells of a row that is read. -/
structure NewsOf (P : Nat → Prop) (ps : List Tm) (n g : Nat) (w : World) (news : List Value) : Prop where
  len : news.length = n * 4
  cell : ∀ W, Below w.heap.size w W → ∀ j u, news[j]? = some u → W.cell? ((⟨g, 0, none⟩ : Addr).add j) = some u
  one : ∀ u ∈ news, u.oneCell' = true
  reps : ∀ q (hq : q < ps.length), ∃ cs, (∀ j, j < 4 → news[q * 4 + j]? = cs[j]?) ∧ tmI.R w (fun b => b < w.heap.size ∧ P b) ps[q] cs

theorem newsOf (P : Nat → Prop) (ps : List Tm) (n g : Nat) (hn : n = ps.length) (w : World) (hr : Rd tmI w P (some ⟨g, 0, none⟩) ps) : NewsOf P ps n g w (rowCells w g 0 (n * 4)) := by
  have hrW := hr.weak (P' := fun b => b < w.heap.size ∧ P b) (by decide) (fun _ h hlt => ⟨hlt, h⟩)
  obtain ⟨c1, c2, c3⟩ := hrW.cells (by decide) 0 n (by omega)
  rw [Nat.zero_mul] at c1 c2 c3
  refine ⟨rowCells_length .., fun W hb j u hu => ?_, c2, fun q hq => ?_⟩
  · have e : (⟨g, 0, none⟩ : Addr).add j = ⟨g, j, none⟩ := by unfold Addr.add; split <;> simp_all
    have := c1 j u hu
    rw [Nat.zero_add] at this
    rw [e]; exact keep1 hb this
  · obtain ⟨cs, e1, e2⟩ := c3 q (by omega)
    refine ⟨cs, e1, ?_⟩
    simp only [Nat.zero_add] at e2
    exact e2

theorem NewsOf.both {P : Nat → Prop} {ps qs : List Tm} {n n' g g' : Nat} {w : World} {xs ys : List Value} (h : NewsOf P ps n g w xs) (h' : NewsOf P qs n' g' w ys) (hn : n = ps.length) :
    ∀ q (hq : q < (ps ++ qs).length), ∃ cs, (∀ j, j < 4 → (xs ++ ys)[q * 4 + j]? = cs[j]?) ∧ tmI.R w (fun b => b < w.heap.size ∧ P b) (ps ++ qs)[q] cs := fun q hq => by
  by_cases hlt : q < ps.length
  · obtain ⟨cs, e1, e2⟩ := h.reps q hlt
    refine ⟨cs, fun j hj => ?_, by rw [List.getElem_append_left hlt]; exact e2⟩
    rw [List.getElem?_append_left (by rw [h.len]; omega)]
    exact e1 j hj
  · have hq2 : q - ps.length < qs.length := by rw [List.length_append] at hq; omega
    obtain ⟨cs, e1, e2⟩ := h'.reps (q - ps.length) hq2
    refine ⟨cs, fun j hj => ?_, by rw [List.getElem_append_right (by omega)]; exact e2⟩
    rw [List.getElem?_append_right (by rw [h.len]; omega), ← e1 j hj, h.len]
    congr 1
    omega

theorem own_shape {w : World} {base : Nat} {e : TypeId} {size : Nat} {v : Value} {n : Nat} {xs : List Value} (hs : 0 < size) (h : w.ownsRow base e size v n xs) : ∃ a c, v = .slice a n c ∧ (a = none → v = .slice none 0 0) := by
  rcases h.2 with ⟨rfl, hx⟩ | ⟨g, cap, cur, rfl, _⟩
  · have h1 := h.1
    rw [hx] at h1
    have h2 : n = 0 := by
      rcases Nat.eq_zero_or_pos n with h | h
      · exact h
      · have := Nat.mul_pos h hs
        simp at h1; omega
    subst h2
    exact ⟨none, 0, rfl, fun _ => rfl⟩
  · exact ⟨some ⟨g, 0, none⟩, cap, rfl, fun e => by simp at e⟩

/-- What 'Concat' of two rows answers. -/
def ConcPost (P : Nat → Prop) (ps qs : List Tm) (n : Nat) (w : World) (e : Ending) (w' : World) : Prop :=
  Below w.heap.size w w' ∧ ∃ va c, e = .returned (.slice va n c) ∧ ((n = 0 ∧ va = none ∧ c = 0) ∨ ∃ g2, va = some ⟨g2, 0, none⟩ ∧ Rd tmI w' (fun b => P b ∨ w.heap.size ≤ b) va (ps ++ qs))

end Go.Proofs.YtapobhnhnldlkaaGreat
end
section
/- The program adds two sums: combine at nil, plus, addSums, SumAdd. -/
namespace Go.Proofs.YtapobhnhnldlkaaGreat
open Go.RowKit

theorem cloneNil_any (w : World) :
    Calls Tryz.prog 44 #[.slice none 0 0] w fun e w' => e = .returned (.slice none 0 0) ∧ w = w' := by
  have hnil : (binOp .eql 55 (.slice none 0 0) (.slice none 0 0)).run Tryz.prog w = .ok (.bool true) w := by
    simp only [binOp]
    simp [Op.equal, Op.maxDepth, Lib.run_equalIn_slice_nil w 9999 55 87 none 0 0 0 0 Tryz.underlying55]
  go_enter Tryz.func44, Tryz.ntmps44
  go_wp2_with fail
  go_ret
  exact ⟨rfl, rfl⟩

set_option maxRecDepth 100000 in
set_option maxHeartbeats 2000000 in
theorem combineNil_any (P : Nat → Prop) (w : World) :
    Calls Tryz.prog 26 #[(.func (.func 27) #[] #[]), .slice none 0 0] w (CombPost P [] w) := by
  obtain ⟨w0, hw0⟩ : ∃ w0, w0 = (w.alloc (.cells #[(.func (.func 27) #[] #[])] 54 (0, 0))).alloc (.cells #[.nilFunc, .slice none 0 0] 57 (0, 0)) := ⟨_, rfl⟩
  have HB0 : Hid (Below w.heap.size w w0) := Lib.hid (by rw [hw0]; exact ((Below.refl _ _).alloc (Nat.le_refl _) _).alloc (by simp) _)
  have hX : w0.heap[w.heap.size]? = some (.cells #[(.func (.func 27) #[] #[])] 54 (0, 0)) := by
    rw [hw0, Below.heap_alloc _ _ _ (by simp)]; exact heap_alloc_new w _
  have hR : w0.heap[w.heap.size + 1]? = some (.cells #[.nilFunc, .slice none 0 0] 57 (0, 0)) := by
    rw [hw0]
    have := heap_alloc_new (w.alloc (.cells #[(.func (.func 27) #[] #[])] 54 (0, 0))) (.cells #[.nilFunc, .slice none 0 0] 57 (0, 0))
    simpa using this
  have hsz : w0.heap.size = w.heap.size + 1 + 1 := by rw [hw0]; simp
  have x0 : w0.cell? ⟨w.heap.size, 0, none⟩ = some (.func (.func 27) #[] #[]) := by rw [Lib.cell_of_heap hX]; rfl
  obtain ⟨r0, r1, fr0, fr1⟩ := two_cells hR
  have hcon := AnyF.slices_SortFunc_none Tryz.sortPt none 0 (.func (.func 46) #[] #[.pointer (some ⟨w.heap.size, 0, none⟩)]) w0
  change Calls Tryz.prog 45 _ _ _ at hcon
  have HS := Lib.hid hcon
  have HW0 := Lib.hid hw0
  have hlt0 : w.heap.size < w0.heap.size := by omega
  have hlt1 : w.heap.size + 1 < w0.heap.size := by omega
  have HSZ := Lib.hid hsz
  have HR0 := Lib.hid hR
  have HX0 := Lib.hid hX
  clear hcon hw0 hsz hX hR
  go_enter Tryz.func26, Tryz.ntmps26
  go_wp2_with fail
  rw [← HW0.out]
  refine (cloneNil_any _).mono ?_
  rintro e w1 ⟨rfl, rfl⟩
  go_wp2_with fail
  refine HS.out.mono ?_
  rintro e w2 ⟨rfl, rfl⟩
  go_wp2_with fail
  go_loopw [6, 7] (fun ov iv wr => ov = .slice (some ⟨w2.heap.size, 0, none⟩) 0 0 ∧ iv = .int .i64 0 ∧ Below w2.heap.size w2 wr) (fun _ _ _ => 0)
  case atStart => exact ⟨rfl, rfl, (Below.refl _ _).alloc (Nat.le_refl _) _⟩
  case round =>
    obtain ⟨rfl, rfl, hB⟩ := hrel
    have HB := Lib.hid hB
    have x0' := keep1 hB x0
    obtain ⟨q0, q1, f0, f1⟩ := two_cells ((hB.block _ hlt1).trans HR0.out)
    have hszr := hB.size
    clear hB
    go_wp2_with fail
    refine bodyPost_ret (v := .agg #[(.func (.func 27) #[] #[]), .slice (some ⟨w2.heap.size, 0, none⟩) 0 0]) (by simp [results, Tryz.results26, go_sem, q0, q1]) rfl ?_
    exact ⟨((below_step HB0.out HB.out).setCell (p := ⟨w.heap.size + 1, 0, none⟩) (by simp) _).setCell (p := ⟨w.heap.size + 1, 1, none⟩) (by simp) _, w2.heap.size, 0, rfl, Rd.nil⟩

/-- 'combine' of what 'Concat' answers. -/
theorem combineOf_any (P : Nat → Prop) (ps : List Tm) (n : Nat) (hn : n = ps.length) (va : Option Addr) (c : Nat) (w : World) (hn2 : n ≤ 100000) (hps : ∀ p ∈ ps, p.2.wf ∧ p.2.leaves ≤ 1000 ∧ p.2.nodes ≤ 1000 ∧ -1000000 ≤ p.1 ∧ p.1 ≤ 1000000)
    (h : (n = 0 ∧ va = none ∧ c = 0) ∨ ∃ g, va = some ⟨g, 0, none⟩ ∧ Rd tmI w P va ps) :
    Calls Tryz.prog 26 #[(.func (.func 27) #[] #[]), .slice va n c] w (CombPost P ps w) := by
  rcases h with ⟨h1, rfl, rfl⟩ | ⟨g, rfl, hr⟩
  · rw [h1] at hn
    rw [List.length_eq_zero_iff.1 hn.symm, h1]
    exact combineNil_any P w
  · exact combine_any P ps n hn g c w hn2 hps hr
theorem cell_put_two {w : World} {q : Nat} {p : Addr} {v : Value} (h : w.cell? p = some v) (hne : p.block ≠ q) (x y : Value) : ((w.setCell ⟨q, 0, none⟩ x).setCell ⟨q, 1, none⟩ y).cell? p = some v := by
  rw [World.cell?_of_block (w := w)]
  · exact h
  · rw [Below.heap_setCell _ _ _ _ hne, Below.heap_setCell _ _ _ _ hne]

end Go.Proofs.YtapobhnhnldlkaaGreat
end
section
/- The program adds two sums: addSums, SumAdd. -/
namespace Go.Proofs.YtapobhnhnldlkaaGreat
open Go.RowKit

/-- What 'addSums' answers. -/
def AddPost (ps qs : List Tm) (w : World) (e : Ending) (w' : World) : Prop :=
  Below w.heap.size w w' ∧ ((alike ps qs = false ∧ e = .returned (.tuple #[.agg #[.nilFunc, .slice none 0 0], .bool false])) ∨
    (alike ps qs = true ∧ ∃ g6 c6, e = .returned (.tuple #[.agg #[(.func (.func 27) #[] #[]), .slice (some ⟨g6, 0, none⟩) (canon (ps ++ qs)).length c6], .bool true]) ∧ Rd tmI w' (fun _ => True) (some ⟨g6, 0, none⟩) (canon (ps ++ qs))))

end Go.Proofs.YtapobhnhnldlkaaGreat
end
section
/- SumAdd by the program. -/
namespace Go.Proofs.YtapobhnhnldlkaaGreat
open Go.RowKit

end Go.Proofs.YtapobhnhnldlkaaGreat
end
