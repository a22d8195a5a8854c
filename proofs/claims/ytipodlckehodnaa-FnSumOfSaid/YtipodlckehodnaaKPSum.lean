/- Merged out of: XDrS, XPSumM, XPSum1, XPSum2. -/
import Derived.Test.YtipodlckehodnaaKDrawT
import Derived.Test.YtipodlckehodnaaKSumOfS
import Derived.Deep.RegionHeld3
import Derived.Test.YtipodlckehodnaaCoefS
import Derived.Test.YtipodlckehodnaaSumX
import Derived.Test.YtipodlckehodnaaKAddI
import Derived.Test.YtipodlckehodnaaSumOpsI
import Derived.Test.YtipodlckehodnaaSumOpsS
section
/- Trees of a shape are drawn, and sums of them. -/
namespace Go.Proofs.Ytipodlckehodnaa
open Go.RowKit

theorem ab_letter {s : ByteArray} (hs : s ∈ abTexts) : ∃ c : UInt8, s = ⟨#[c]⟩ ∧ 97 ≤ c.toNat ∧ c.toNat ≤ 104 := by
  simp only [abTexts, List.mem_cons, List.not_mem_nil, or_false] at hs
  rcases hs with rfl | rfl
  · exact ⟨97, rfl, by decide, by decide⟩
  · exact ⟨98, rfl, by decide, by decide⟩

theorem put_two2 {w : World} {q : Nat} {a b : Value} {ty : TypeId} (h : w.heap[q]? = some (.cells #[a, b] ty (0, 0))) (x y : Value) :
    ((w.setCell ⟨q, 0, none⟩ x).setCell ⟨q, 1, none⟩ y).heap[q]? = some (.cells #[x, y] ty (0, 0)) := by
  have := heap_setCell_same (k := 1) (heap_setCell_same (k := 0) h x) y
  simpa using this

theorem cell_put2 {w : World} {q : Nat} {p : Addr} {v : Value} (h : w.cell? p = some v) (hne : p.block ≠ q) (x y : Value) : ((w.setCell ⟨q, 0, none⟩ x).setCell ⟨q, 1, none⟩ y).cell? p = some v := by
  rw [World.cell?_of_block (w := w)]
  · exact h
  · rw [Below.heap_setCell _ _ _ _ hne, Below.heap_setCell _ _ _ _ hne]

/-- A drawn tree with just so many leaves. -/
def ShapeDr (R : Nat) (a : Option Addr) (cap : Nat) (bs : List Nat) (p n : Nat) (w : World) (e : Ending) (w' : World) : Prop :=
  w.grownBy w' (some R) ∧ ∃ (t : T) (lb : ByteArray) (sa : Option Addr) (sn sc q : Nat), e = .returned (.agg #[.string lb, .slice sa sn sc]) ∧ RepS w' (fun b => w.heap.size ≤ b) t (.string lb) (.slice sa sn sc) ∧
    t.wf ∧ t.leaves ≤ n ∧ t.nodes + 1 ≤ n ∧ RdR w' R a cap bs q ∧ q + 2 ≤ p + 2 * n

set_option maxRecDepth 100000 in
set_option maxHeartbeats 2000000 in
theorem l91Shape_any (R : Nat) (a : Option Addr) (cap : Nat) (bs : List Nat) : ∀ (m n p : Nat) (w : World), n ≤ m → 1 ≤ n → n ≤ 100 → p + 2 * n ≤ 1000000 → RdR w R a cap bs p →
    Calls Try.prog 61 #[.pointer (some ⟨R, 0, none⟩), .int .i64 n] w (ShapeDr R a cap bs p n w) := by
  intro m
  induction m with
  | zero => intro n p w h1 h2; omega
  | succ m ih =>
    intro n p w hnm hn1 hn2 hp h
    have hRw : R < w.heap.size := h.cells.2.2.2
    obtain ⟨w0, hw0⟩ : ∃ w0, w0 = w.alloc (.cells #[.string ⟨#[]⟩, .slice none 0 0] 88 (0, 0)) := ⟨_, rfl⟩
    have hg0 : w.grownBy w0 none := by rw [hw0]; exact grownBy_below (grownBy_refl w none) ((Below.refl _ _).alloc (Nat.le_refl _) _)
    have hb0 : w0.heap[w.heap.size]? = some (.cells #[.string ⟨#[]⟩, .slice none 0 0] 88 (0, 0)) := by rw [hw0]; exact heap_alloc_new w _
    have hs0 : w0.heap.size = w.heap.size + 1 := by rw [hw0]; simp
    have hr0 := h.grown hg0 (fun _ e => by cases e)
    have hgR0 : w.grownBy w0 (some R) := by rw [hw0]; exact grownBy_below (grownBy_refl w (some R)) ((Below.refl _ _).alloc (Nat.le_refl _) _)
    have HW0 := Lib.hid hw0
    have HG0 := Lib.hid hgR0
    have HB0 := Lib.hid hb0
    have HS0 := Lib.hid hs0
    have HR0 := Lib.hid hr0
    clear h hw0 hg0 hgR0 hr0 hb0
    by_cases h1 : n = 1
    · subst h1
      clear ih hs0
      go_enter Try.func61, Try.ntmps61
      go_wp2_with fail
      refine bodyPost_ret (v := .agg #[.string ⟨#[]⟩, .slice none 0 0]) (by simp [results, Try.results61, go_sem]) rfl ?_
      have hg : w.grownBy (w.alloc (.cells #[.string ⟨#[]⟩, .slice none 0 0] 88 (0, 0))) none := grownBy_below (grownBy_refl w none) ((Below.refl _ _).alloc (Nat.le_refl _) _)
      exact ⟨grownBy_below (grownBy_refl w (some R)) ((Below.refl _ _).alloc (Nat.le_refl _) _), .leaf, ⟨#[]⟩, none, 0, 0, p, rfl, by rw [RepS]; exact ⟨rfl, rfl⟩, by simp [T.wf], by simp [T.leaves], by simp [T.nodes], by have := HR0.out; rw [HW0.out] at this; exact this, by omega⟩
    · obtain ⟨n', hn'⟩ : ∃ n', n' + 1 = n := ⟨n - 1, by omega⟩
      have e1 : decide ((n : Int) ≤ 1) = false := decide_eq_false (by omega)
      have hwm : IntKind.i64.wrap ((n : Int) - 1) = (n' : Int) := by rw [IntKind.wrap_i64]; omega
      have HP1 := Lib.hid (pick_any R a cap p n' bs w0 HR0.out (by omega) (by omega) (by omega))
      clear hs0
      go_enter Try.func61, Try.ntmps61
      go_wp2_with fail
      rw [← HW0.out]
      refine HP1.out.mono ?_
      rintro e w1 ⟨⟨j, hj, rfl⟩, hg1, hs1, hr1⟩
      have hs0 := HS0.out
      have hs1' : w1.heap.size = w.heap.size + 1 := by omega
      have HG1 := Lib.hid (grownBy_trans HG0.out hg1)
      have HB1 : Hid (w1.heap[w.heap.size]? = some (.cells #[.string ⟨#[]⟩, .slice none 0 0] 88 (0, 0))) := Lib.hid (by rw [hg1.block w.heap.size (by omega) (by simp only [ne_eq, Option.some.injEq]; omega)]; exact HB0.out)
      obtain ⟨k, hk⟩ : ∃ k, k = 1 + j := ⟨_, rfl⟩
      have HJK : Hid (1 + (j : Int) = (k : Int)) := Lib.hid (by omega)
      have hk1 : 1 ≤ k ∧ k < n := by omega
      have hwk : IntKind.i64.wrap (1 + (j : Int)) = (k : Int) := by rw [IntKind.wrap_i64]; omega
      obtain ⟨l, hl⟩ : ∃ l, l + k = n := ⟨n - k, by omega⟩
      have hwl : IntKind.i64.wrap ((n : Int) - (k : Int)) = (l : Int) := by rw [IntKind.wrap_i64]; omega
      have HT1 := Lib.hid (ih k (p + 1) w1 (by omega) (by omega) (by omega) (by omega) hr1)
      have HS1 := Lib.hid hs1'
      clear hg1 hr1 hs1 hs0 hs1' hk
      go_wp2_with fail
      refine HT1.out.mono ?_
      rintro e w2 ⟨hg2, t1, lb1, sa1, sn1, sc1, q1, rfl, hrep1, hwf1, hlv1, hnd1, hrd1, hq1⟩
      have HG2 := Lib.hid (grownBy_trans HG1.out hg2)
      have hs2 : w.heap.size + 1 ≤ w2.heap.size := by have := hg2.size; have := HS1.out; omega
      have HB2 : Hid (w2.heap[w.heap.size]? = some (.cells #[.string ⟨#[]⟩, .slice none 0 0] 88 (0, 0))) := Lib.hid (by rw [hg2.block w.heap.size (by have := HS1.out; omega) (by simp only [ne_eq, Option.some.injEq]; omega)]; exact HB1.out)
      have HRP1 := Lib.hid (hrep1.keep (P' := fun b => w.heap.size < b) (fun _ _ _ h => h) (fun b h _ => by have := HS1.out; omega) hwf1)
      obtain ⟨wb, hwb⟩ : ∃ wb, wb = w2.alloc (.cells #[.string lb1, .slice sa1 sn1 sc1] 88 (0, 0)) := ⟨_, rfl⟩
      have hbb : Below w2.heap.size w2 wb := by rw [hwb]; exact (Below.refl _ _).alloc (Nat.le_refl _) _
      have hsb : wb.heap.size = w2.heap.size + 1 := by rw [hwb]; simp
      obtain ⟨c0, c1, _, _⟩ := two_cells (by rw [hwb]; exact heap_alloc_new w2 _ : wb.heap[w2.heap.size]? = some (.cells #[.string lb1, .slice sa1 sn1 sc1] 88 (0, 0)))
      have hba : Below wb.heap.size wb (wb.alloc (.cells abCells 9 (0, 0))).drew := ((Below.refl _ _).alloc (Nat.le_refl _) _).drew
      have HAB := Lib.hid hba
      have hbd : Below w2.heap.size w2 wb.drew := hbb.drew
      have HO : Hid (Calls Try.prog 98 #[.pointer (some ⟨R, 0, none⟩), .slice (some ⟨w2.heap.size + 1, 0, none⟩) 2 2] (wb.alloc (.cells abCells 9 (0, 0))).drew (OfPost R a cap bs q1 abTexts (wb.alloc (.cells abCells 9 (0, 0))).drew)) := Lib.hid (by
        have h5 := ab_of R a cap bs q1 wb.drew (hrd1.grown (grownBy_below (grownBy_refl _ none) hbd) (fun _ e => by cases e)) (by omega)
        rw [show wb.drew.heap.size = w2.heap.size + 1 from hsb] at h5
        exact h5)
      have HGB := Lib.hid (grownBy_below (grownBy_below HG2.out hbb) hba)
      have HWB := Lib.hid hwb
      have HBA := Lib.hid (hbb.trans (hba.mono hbb.size))
      clear hg2 hrep1 hrd1 hwb hbb hba hbd
      go_wp2_with fail
      rw [← HWB.out]
      refine wp_region_held_drew (S := (fun w' => w'.cell? ⟨w2.heap.size, 0, none⟩ = some (.string lb1) ∧ w'.cell? ⟨w2.heap.size, 1, none⟩ = some (.slice sa1 sn1 sc1))) (by kernel_rfl) (by exact ⟨c0, c1⟩) (fun hHeld => ?_)
      refine wpAnyH_take (i := 0) (oi := { dst := some 18, op := Op.move (Operand.tmp 0), type := 58, pos := "l91_draw.go:187", after := #[], guard := none }) (v := ?_) rfl (by kernel_rfl) (by kernel_rfl) (by kernel_rfl) (fun _ _ _ h => h) (Or.inl ⟨by rfl, ?_⟩) (by assumption) ?_
      rotate_left
      · (intro w hSw; (try dsimp only at hSw); go_simp <;> with_reducible rfl)
      (try simp only [Act.put, List.setIfInBounds_toArray, List.set_cons_zero, List.set_cons_succ])
      refine wpAnyH_take (i := 3) (oi := { dst := some 21, op := Op.load 88 (Operand.tmp 6), type := 88, pos := "l91_draw.go:187", after := #[], guard := none }) (v := ?_) rfl (by kernel_rfl) (by kernel_rfl) (by kernel_rfl) (fun _ _ _ h => h) (Or.inl ⟨by rfl, ?_⟩) (by assumption) ?_
      rotate_left
      · (intro w hSw; (try dsimp only at hSw); go_simp <;> with_reducible rfl)
      (try simp only [Act.put, List.setIfInBounds_toArray, List.set_cons_zero, List.set_cons_succ])
      refine wpAnyH_take (i := 4) (oi := { dst := some 22, op := Op.move (Operand.tmp 0), type := 58, pos := "l91_draw.go:187", after := #[], guard := none }) (v := ?_) rfl (by kernel_rfl) (by kernel_rfl) (by kernel_rfl) (fun _ _ _ h => h) (Or.inl ⟨by rfl, ?_⟩) (by assumption) ?_
      rotate_left
      · (intro w hSw; (try dsimp only at hSw); go_simp <;> with_reducible rfl)
      (try simp only [Act.put, List.setIfInBounds_toArray, List.set_cons_zero, List.set_cons_succ])
      refine wpAnyH_take (i := 5) (oi := { dst := some 23, op := Op.move (Operand.tmp 1), type := 3, pos := "l91_draw.go:187", after := #[], guard := none }) (v := ?_) rfl (by kernel_rfl) (by kernel_rfl) (by kernel_rfl) (fun _ _ _ h => h) (Or.inl ⟨by rfl, ?_⟩) (by assumption) ?_
      rotate_left
      · (intro w hSw; (try dsimp only at hSw); go_simp <;> with_reducible rfl)
      (try simp only [Act.put, List.setIfInBounds_toArray, List.set_cons_zero, List.set_cons_succ])
      refine wpAnyH_take (i := 6) (oi := { dst := some 24, op := Op.move (Operand.tmp 5), type := 3, pos := "l91_draw.go:187", after := #[], guard := none }) (v := ?_) rfl (by kernel_rfl) (by kernel_rfl) (by kernel_rfl) (fun _ _ _ h => h) (Or.inl ⟨by rfl, ?_⟩) (by assumption) ?_
      rotate_left
      · (intro w hSw; (try dsimp only at hSw); go_simp <;> with_reducible rfl)
      (try simp only [Act.put, List.setIfInBounds_toArray, List.set_cons_zero, List.set_cons_succ])
      refine wpAnyH_take (i := 7) (oi := { dst := some 25, op := Op.binOp BinOp.sub 3 (Operand.tmp 23) (Operand.tmp 24) 3, type := 3, pos := "l91_draw.go:187", after := #[{ on := 5, ground := Ground.data }, { on := 6, ground := Ground.data }], guard := none }) (v := ?_) rfl (by kernel_rfl) (by kernel_rfl) (by kernel_rfl) (fun _ _ _ h => h) (Or.inl ⟨by rfl, ?_⟩) (by assumption) ?_
      rotate_left
      · (intro w hSw; (try dsimp only at hSw); go_simp <;> with_reducible rfl)
      (try simp only [Act.put, List.setIfInBounds_toArray, List.set_cons_zero, List.set_cons_succ])
      refine wpAnyH_ready (rs := [1]) (by kernel_rfl) (by simp) ?_
      refine AllReadyH.cons (o := { dst := some 19, op := Op.buildSlice 77 2 #[(0, Operand.const (Value.string { data := #[97] })), (1, Operand.const (Value.string { data := #[98] }))], type := 77, pos := "l91_draw.go:187", after := #[], guard := none }) rfl (fun K hK => ?_) AllReadyH.nil
      go_simp
      go_wp2_with fail
      refine hK.out _ _ ?_ (fun hHeld => ?_)
      · exact ⟨keep1 HAB.out c0, keep1 HAB.out c1⟩
      clear hK K
      (try simp only [Act.put, List.setIfInBounds_toArray, List.set_cons_zero, List.set_cons_succ])
      refine wpAnyH_ready (rs := [2]) (by kernel_rfl) (by simp) ?_
      refine AllReadyH.cons (o := { dst := some 20, op := Op.call { callee := Callee.value (Operand.func 98), args := #[Operand.tmp 18, Operand.tmp 19], argTypes := #[58, 77] }, type := 9, pos := "l91_draw.go:187", after := #[{ on := 0, ground := Ground.data }, { on := 1, ground := Ground.data }], guard := none }) rfl (fun K hK => ?_) AllReadyH.nil
      go_simp
      go_wp2_with fail
      refine HO.out.mono ?_
      rintro e w3 ⟨⟨s, hs, rfl⟩, hg3, hs3, hr3⟩
      obtain ⟨ch, hch, hc1, hc2⟩ := ab_letter hs
      subst hch
      have d0 := keeps_row hg3 (fun b => b ≠ R) (fun b h => h) _ _ (show w2.heap.size ≠ R by omega) (keep1 HAB.out c0)
      have d1 := keeps_row hg3 (fun b => b ≠ R) (fun b h => h) _ _ (show w2.heap.size ≠ R by omega) (keep1 HAB.out c1)
      have HG3 := Lib.hid (grownBy_trans HGB.out hg3)
      have HS3 := Lib.hid hs3
      have hs4 := HG3.out.size
      have HT2 := Lib.hid (ih l (q1 + 1) w3 (by omega) (by omega) (by omega) (by omega) hr3)
      have HG3R := Lib.hid hg3
      clear hg3 hs3 hr3 hs
      go_wp2_with fail
      refine hK.out _ _ ?_ (fun hHeld => ?_)
      · exact ⟨d0, d1⟩
      clear hK K
      (try simp only [Act.put, List.setIfInBounds_toArray, List.set_cons_zero, List.set_cons_succ])
      refine wpAnyH_ready (rs := [8]) (by kernel_rfl) (by simp) ?_
      refine AllReadyH.cons (o := { dst := some 26, op := Op.call { callee := Callee.value (Operand.func 61), args := #[Operand.tmp 22, Operand.tmp 25], argTypes := #[58, 3] }, type := 88, pos := "l91_draw.go:187", after := #[{ on := 4, ground := Ground.data }, { on := 7, ground := Ground.data }, { on := 2, ground := Ground.chain }], guard := none }) rfl (fun K hK => ?_) AllReadyH.nil
      go_simp
      go_wp2_with fail
      refine HT2.out.mono ?_
      rintro e w4 ⟨hg4, t2, lb2, sa2, sn2, sc2, q2, rfl, hrep2, hwf2, hlv2, hnd2, hrd2, hq2⟩
      have e0 := keeps_row hg4 (fun b => b ≠ R) (fun b h => h) _ _ (show w2.heap.size ≠ R by omega) d0
      have e1 := keeps_row hg4 (fun b => b ≠ R) (fun b h => h) _ _ (show w2.heap.size ≠ R by omega) d1
      have HG4 := Lib.hid hg4
      have HREP2 := Lib.hid hrep2
      have HRD2 := Lib.hid hrd2
      clear hg4 hrep2 hrd2
      go_wp2_with fail
      refine hK.out _ _ ?_ (fun hHeld => ?_)
      · exact ⟨e0, e1⟩
      clear hK K
      (try simp only [Act.put, List.setIfInBounds_toArray, List.set_cons_zero, List.set_cons_succ])
      refine wpAnyH_ready (rs := [9]) (by kernel_rfl) (by simp) ?_
      refine AllReadyH.cons (o := { dst := some 27, op := Op.buildSlice 86 2 #[(0, Operand.tmp 21), (1, Operand.tmp 26)], type := 86, pos := "l91_draw.go:187", after := #[{ on := 3, ground := Ground.data }, { on := 8, ground := Ground.data }], guard := none }) rfl (fun K hK => ?_) AllReadyH.nil
      go_simp
      go_wp2_with fail
      refine hK.out _ _ ?_ (fun hHeld => ?_)
      · exact ⟨keep1 ((Below.refl w4.heap.size w4).alloc (Nat.le_refl _) (.cells #[.string lb1, .slice sa1 sn1 sc1, .string lb2, .slice sa2 sn2 sc2] 88 (0, 0))) e0, keep1 ((Below.refl w4.heap.size w4).alloc (Nat.le_refl _) (.cells #[.string lb1, .slice sa1 sn1 sc1, .string lb2, .slice sa2 sn2 sc2] 88 (0, 0))) e1⟩
      clear hK K
      (try simp only [Act.put, List.setIfInBounds_toArray, List.set_cons_zero, List.set_cons_succ])
      refine wpAnyH_take (i := 10) (oi := { dst := some 28, op := Op.build 88 #[(0, Operand.tmp 20), (1, Operand.tmp 27)], type := 88, pos := "l91_draw.go:187", after := #[{ on := 2, ground := Ground.data }, { on := 9, ground := Ground.data }], guard := none }) (v := ?_) rfl (by kernel_rfl) (by kernel_rfl) (by kernel_rfl) (fun _ _ _ h => h) (Or.inl ⟨by rfl, ?_⟩) (by assumption) ?_
      rotate_left
      · (intro w hSw; (try dsimp only at hSw); go_simp <;> with_reducible rfl)
      (try simp only [Act.put, List.setIfInBounds_toArray, List.set_cons_zero, List.set_cons_succ])
      refine wpAnyH_ready (rs := [11]) (by kernel_rfl) (by simp) ?_
      refine AllReadyH.cons (o := { dst := none, op := Op.store 88 (Operand.tmp 4) (Operand.tmp 28), type := 0, pos := "l91_draw.go:187", after := #[{ on := 10, ground := Ground.data }, { on := 8, ground := Ground.chain }, { on := 0, ground := Ground.phase }, { on := 1, ground := Ground.phase }, { on := 2, ground := Ground.phase }, { on := 3, ground := Ground.phase }, { on := 4, ground := Ground.phase }, { on := 5, ground := Ground.phase }, { on := 6, ground := Ground.phase }, { on := 7, ground := Ground.phase }, { on := 8, ground := Ground.phase }, { on := 9, ground := Ground.phase }, { on := 10, ground := Ground.phase }], guard := none }) rfl (fun K hK => ?_) AllReadyH.nil
      have hsw4 := HG4.out.size
      have hz2 := HBA.out.size
      have hz3 := HG3R.out.size
      have hB4 : w4.heap[w.heap.size]? = some (.cells #[.string ⟨#[]⟩, .slice none 0 0] 88 (0, 0)) := by rw [HG4.out.block w.heap.size (by omega) (by simp only [ne_eq, Option.some.injEq]; omega), HG3R.out.block w.heap.size (by omega) (by simp only [ne_eq, Option.some.injEq]; omega), HBA.out.block w.heap.size (by omega)]; exact HB2.out
      have HB4 := Lib.hid hB4
      obtain ⟨r0, r1, f0, f1⟩ := two_cells hB4
      have hl4 : w.heap.size < w4.heap.size := by omega
      clear hB4
      go_simp
      go_wp2_with fail
      refine hK.out _ _ ?_ (fun hHeld => ?_)
      · exact ⟨keep1 ((Below.refl _ _).alloc (Nat.le_refl _) _) (cell_put2 e0 (show w2.heap.size ≠ w.heap.size by omega) _ _), keep1 ((Below.refl _ _).alloc (Nat.le_refl _) _) (cell_put2 e1 (show w2.heap.size ≠ w.heap.size by omega) _ _)⟩
      clear hK K
      (try simp only [Act.put, List.setIfInBounds_toArray, List.set_cons_zero, List.set_cons_succ])
      refine wpAnyH_done (by kernel_rfl) ?_ _
      all_goals
        obtain ⟨wp, hwp⟩ : ∃ wp, wp = (w4.setCell ⟨w.heap.size, 0, none⟩ (.string ⟨#[ch]⟩)).setCell ⟨w.heap.size, 1, none⟩ (.slice (some ⟨w4.heap.size, 0, none⟩) 2 2) := ⟨_, rfl⟩
        have hgp : wp.heap[w.heap.size]? = some (.cells #[.string ⟨#[ch]⟩, .slice (some ⟨w4.heap.size, 0, none⟩) 2 2] 88 (0, 0)) := by rw [hwp]; exact put_two2 HB4.out _ _
        have hsp : wp.heap.size = w4.heap.size := by rw [hwp]; simp
        have hkp : ∀ (q : Addr) (v : Value), q.block ≠ w.heap.size → w4.cell? q = some v → wp.cell? q = some v := fun q v hq hv => by rw [hwp]; exact cell_put2 hv hq _ _
        have hgwp : w4.grownBy wp (some w.heap.size) := by rw [hwp]; exact grownBy_setCell (grownBy_setCell (grownBy_refl _ _) _) _
        rw [← hwp]
        have hnew := heap_alloc_new wp (.cells #[.string lb1, .slice sa1 sn1 sc1, .string lb2, .slice sa2 sn2 sc2] 88 (0, 0))
        obtain ⟨wr, hwr⟩ : ∃ wr, wr = wp.alloc (.cells #[.string lb1, .slice sa1 sn1 sc1, .string lb2, .slice sa2 sn2 sc2] 88 (0, 0)) := ⟨_, rfl⟩
        have hbr : Below wp.heap.size wp wr := by rw [hwr]; exact (Below.refl _ _).alloc (Nat.le_refl _) _
        rw [← hwr]
        rw [← hwr, hsp] at hnew
        clear hwp hwr
        obtain ⟨t0, t1', _, _⟩ := two_cells ((hbr.block _ (by omega)).trans hgp)
        have hk4 : Keeps (fun b => b ≠ w.heap.size) w4 wr := fun q v hq hv => keep1 hbr (hkp q v hq hv)
        have hrw : Keeps (fun b => w.heap.size < b) w2 w4 := fun q v hq hv => keeps_row HG4.out (fun b => b ≠ R) (fun b h => h) q v (by omega) (keeps_row HG3R.out (fun b => b ≠ R) (fun b h => h) q v (by omega) (keep1 HBA.out hv))
        have hr1' := (HRP1.out.keep (P' := fun b => w.heap.size < b) hrw (fun b h _ => h) hwf1).keep (P' := fun b => w.heap.size ≤ b) (fun q v hq hv => hk4 q v (by omega) hv) (fun b h _ => by omega) hwf1
        have hr2' := HREP2.out.keep (P' := fun b => w.heap.size ≤ b) (fun q v hq hv => hk4 q v (by omega) hv) (fun b h _ => by omega) hwf2
        have hrep : RepS wr (fun b => w.heap.size ≤ b) (T.node ch [t1, t2]) (.string ⟨#[ch]⟩) (.slice (some ⟨w4.heap.size, 0, none⟩) 2 2) := by
          rw [RepS]
          refine ⟨rfl, w4.heap.size, 2, rfl, by omega, by simp, ?_⟩
          rw [RepSL, RepSL, RepSL]
          exact ⟨⟨.string lb1, .slice sa1 sn1 sc1, by rw [Lib.cell_of_heap hnew]; rfl, by rw [Lib.cell_of_heap hnew]; rfl, hr1'⟩, ⟨.string lb2, .slice sa2 sn2 sc2, by rw [Lib.cell_of_heap hnew]; rfl, by rw [Lib.cell_of_heap hnew]; rfl, hr2'⟩, trivial⟩
        have hwf : (T.node ch [t1, t2]).wf := by
          simp only [T.wf, T.wfL, List.length_cons, List.length_nil]
          exact ⟨hc1, hc2, by omega, by omega, hwf1, hwf2, trivial⟩
        have HREP := Lib.hid hrep
        have HRDF := Lib.hid ((HRD2.out.grown hgwp (fun r e => by cases e; exact hRw)).grown (grownBy_below (grownBy_refl _ none) hbr) (fun _ e => by cases e))
        have HGF := Lib.hid (grownBy_below (grownBy_over (grownBy_trans HG3.out HG4.out) hgwp (fun r e => by cases e; exact Nat.le_refl _)) hbr)
        have HWF := Lib.hid hwf
        clear hrep hwf hr1' hr2' hrw hk4 hkp hgwp hbr hgp hnew
        go_wp2_with fail
        refine bodyPost_ret (v := .agg #[.string ⟨#[ch]⟩, .slice (some ⟨w4.heap.size, 0, none⟩) 2 2]) (by simp [results, Try.results61, go_sem, t0, t1']) rfl ?_
        exact ⟨HGF.out, T.node ch [t1, t2], ⟨#[ch]⟩, _, 2, 2, q2, rfl, HREP.out, HWF.out, by simp only [T.leaves, T.leavesL]; omega, by simp only [T.nodes, T.nodesL]; omega, HRDF.out, by omega⟩


/-- A row of terms, cell by cell. -/
def flatT (ys : List (Int × ByteArray)) : List Value := ys.flatMap fun y => [.int .i64 y.1, .string y.2]

theorem flatT_snoc (ys : List (Int × ByteArray)) (y : Int × ByteArray) : flatT (ys ++ [y]) = flatT ys ++ [.int .i64 y.1, .string y.2] := by simp [flatT]
theorem flatT_length : ∀ (ys : List (Int × ByteArray)), (flatT ys).length = ys.length * 2
  | [] => rfl
  | y :: ys => by
    have ih := flatT_length ys
    simp only [flatT, List.flatMap_cons, List.length_append, List.length_cons, List.length_nil] at ih ⊢
    omega
theorem flatT_get : ∀ (ys : List (Int × ByteArray)) (j : Nat) (h : j < ys.length), (flatT ys)[j * 2]? = some (.int .i64 (ys[j]).1) ∧ (flatT ys)[j * 2 + 1]? = some (.string (ys[j]).2)
  | [], j, h => by simp at h
  | y :: ys, 0, _ => ⟨rfl, rfl⟩
  | y :: ys, j + 1, h => by
    have ih := flatT_get ys j (by simpa using h)
    simp only [flatT, List.flatMap_cons, List.getElem_cons_succ] at ih ⊢
    rw [show (j + 1) * 2 = j * 2 + 1 + 1 by omega]
    exact ih

theorem owns_termL {w : World} {base g n c : Nat} {ys : List (Int × ByteArray)} (hn : n = ys.length) (h : w.ownsRow base 32 2 (.slice (some ⟨g, 0, none⟩) n c) n (flatT ys)) : TermL w g ys := fun j hj => by
  obtain ⟨h1, h2⟩ := flatT_get ys j hj
  exact ⟨by rw [h.cellAt (j * 2) (by omega), h1], by rw [h.cellAt (j * 2 + 1) (by omega), h2]⟩

/-- The terms are small. -/
def TmSmall (ys : List (Int × ByteArray)) : Prop := ∀ j (h : j < ys.length), (ys[j]).2.size ≤ 2000 ∧ -100 ≤ (ys[j]).1 ∧ (ys[j]).1 ≤ 100

theorem TmSmall.snoc {ys : List (Int × ByteArray)} {y : Int × ByteArray} (h : TmSmall ys) (h1 : y.2.size ≤ 2000) (h2 : -100 ≤ y.1) (h3 : y.1 ≤ 100) : TmSmall (ys ++ [y]) := fun j hj => by
  by_cases e : j < ys.length
  · rw [List.getElem_append_left e]; exact h j e
  · have : j = ys.length := by simp at hj; omega
    subst this
    simp [h1, h2, h3]

theorem ofList_ok {xs : List (Int × ByteArray)} {qs : List Tm} (h : ofList xs = some qs) : qs.length ≤ 60 ∧ ∀ p ∈ qs, p.2.leaves ≤ 12 ∧ p.2.nodes ≤ 16 ∧ 1 ≤ p.1 ∧ p.1 ≤ 100 := by
  unfold ofList at h
  split at h
  · cases h
  · rename_i ps hp
    obtain ⟨_, _, h3⟩ := termsOf_ok hp
    have hnf := NF.canon (ps := ps) (fun p hq => (h3.tree p hq).1)
    unfold outOf at h
    split at h
    · rename_i hb
      cases h
      simp only [bounded, Bool.and_eq_true, decide_eq_true_eq, List.all_eq_true, small] at hb
      exact ⟨hb.1, fun p hp => ⟨(hb.2 p hp).1, (hb.2 p hp).2, (hnf.2 p hp).1, (hnf.2 p hp).2.1⟩⟩
    · cases h

theorem txt_small {qs : List Tm} (h : ∀ p ∈ qs, p.2.leaves ≤ 12 ∧ p.2.nodes ≤ 16 ∧ 1 ≤ p.1 ∧ p.1 ≤ 100) : TmSmall (txtTm qs) := fun j hj => by
  have hj2 : j < qs.length := by rw [txtTm_length] at hj; exact hj
  have hq := h _ (List.getElem_mem hj2)
  have e : (txtTm qs)[j] = ((qs[j]).1, ⟨(qs[j]).2.text.toArray⟩) := by simp [txtTm]
  rw [e]
  refine ⟨?_, by omega, by omega⟩
  have := text_length (qs[j]).2
  change (qs[j]).2.text.toArray.size ≤ 2000
  simp only [List.size_toArray]
  omega

/-- A drawn list of terms. -/
def SumDr (R : Nat) (a : Option Addr) (cap : Nat) (bs : List Nat) (p : Nat) (w : World) (e : Ending) (w' : World) : Prop :=
  w.grownBy w' (some R) ∧ ∃ (ys : List (Int × ByteArray)) (g n c q : Nat), e = .returned (.slice (some ⟨g, 0, none⟩) n c) ∧ n = ys.length ∧ n ≤ 60 ∧ TmSmall ys ∧ TermL w' g ys ∧ w.heap.size ≤ g ∧ RdR w' R a cap bs q ∧ q ≤ p + 200

set_option maxRecDepth 100000 in
set_option maxHeartbeats 2000000 in
theorem l91Sum_any (R : Nat) (a : Option Addr) (cap : Nat) (bs : List Nat) (p n : Nat) (w : World) (hn1 : 1 ≤ n) (hn2 : n ≤ 12) (hp : p ≤ 10000) (h : RdR w R a cap bs p) :
    Calls Try.prog 50 #[.pointer (some ⟨R, 0, none⟩), .int .i64 n] w (SumDr R a cap bs p w) := by
  have hRw : R < w.heap.size := h.cells.2.2.2
  obtain ⟨i0, hi0, hzz, hzs, hzby⟩ := info_parts infoTm2
  obtain ⟨w0, hw0⟩ : ∃ w0, w0 = w.alloc (.cells #[] 32 (0, 0)) := ⟨_, rfl⟩
  have hg0 : w.grownBy w0 none := by rw [hw0]; exact grownBy_below (grownBy_refl w none) ((Below.refl _ _).alloc (Nat.le_refl _) _)
  have hgR0 : w.grownBy w0 (some R) := by rw [hw0]; exact grownBy_below (grownBy_refl w (some R)) ((Below.refl _ _).alloc (Nat.le_refl _) _)
  have hr0 := h.grown hg0 (fun _ e => by cases e)
  have hown0 : w0.ownsRow w.heap.size 32 2 (.slice (some ⟨w.heap.size, 0, none⟩) 0 0) 0 (flatT []) := by rw [hw0]; exact World.ownsRow_made w #[] 0 (Nat.le_refl _) (by simp [maxLen]) rfl
  have HP1 := Lib.hid (pick_any R a cap p 4 bs w0 hr0 (by omega) (by omega) (by omega))
  have HW0 := Lib.hid hw0
  have HG0 := Lib.hid hgR0
  have HOWN0 := Lib.hid hown0
  clear h hw0 hg0 hgR0 hr0 hown0
  go_enter Try.func50, Try.ntmps50
  go_wp2_with fail
  rw [← HW0.out]
  refine HP1.out.mono ?_
  rintro e w1 ⟨⟨k0, hk0, rfl⟩, hg1, hs1, hr1⟩
  have HG1 := Lib.hid (grownBy_trans HG0.out hg1)
  have HOWN1 := Lib.hid (owns_kept_some HOWN0.out hg1 hRw)
  have HR1 := Lib.hid hr1
  clear hg1 hs1 hr1
  go_wp2_with fail
  go_loopw [5, 7] (fun lv iv wr => ∃ (ys : List (Int × ByteArray)) (k g vc q : Nat), k = ys.length ∧ k ≤ k0 ∧ iv = .int .i64 k ∧ lv = .slice (some ⟨g, 0, none⟩) k vc ∧ wr.ownsRow w.heap.size 32 2 (.slice (some ⟨g, 0, none⟩) k vc) k (flatT ys) ∧ RdR wr R a cap bs q ∧ q ≤ p + 1 + k * 30 ∧ TmSmall ys ∧ w.grownBy wr (some R)) (fun _ iv _ => k0 - (intOf iv).toNat)
  case atStart => exact ⟨[], 0, w.heap.size, 0, p + 1, rfl, by omega, rfl, rfl, HOWN1.out, HR1.out, by omega, fun j hj => by simp at hj, HG1.out⟩
  case round =>
    obtain ⟨ys, k, g, vc, q, hky, hk, rfl, rfl, hown, hr, hq, hsm, hgw⟩ := hrel
    have HKY := Lib.hid hky
    have HOWN := Lib.hid hown
    have HR := Lib.hid hr
    have HSM := Lib.hid hsm
    have HGW := Lib.hid hgw
    have hwr := hgw.size
    clear hky hown hsm hgw
    by_cases hlt : k < k0
    · have HP2 := Lib.hid (pick_any R a cap q 11 bs wr hr (by omega) (by omega) (by omega))
      clear hr
      go_wp2_with fail
      refine HP2.out.mono ?_
      rintro e w2 ⟨⟨x, hx, rfl⟩, hg2, hs2, hr2⟩
      obtain ⟨z, hz⟩ : ∃ z : Int, z = (x : Int) - 5 := ⟨_, rfl⟩
      have hwz : IntKind.i64.wrap ((x : Int) - 5) = z := by rw [IntKind.wrap_i64]; omega
      have hzb : -100 ≤ z ∧ z ≤ 100 := by omega
      have HG2 := Lib.hid (grownBy_trans HGW.out hg2)
      have HOWN2 := Lib.hid (owns_kept_some HOWN.out hg2 hRw)
      have HSH := Lib.hid (l91Shape_any R a cap bs n n (q + 1) w2 (Nat.le_refl _) hn1 (by omega) (by omega) hr2)
      clear hg2 hs2 hr2 hz
      go_wp2_with fail
      refine HSH.out.mono ?_
      rintro e w3 ⟨hg3, t, lb, sa, sn, sc, q3, rfl, hrep, hwf, hlv, hnd, hrd3, hq3⟩
      have HG3 := Lib.hid (grownBy_trans HG2.out hg3)
      have HOWN3 := Lib.hid (owns_kept_some HOWN2.out hg3 hRw)
      have HRD3 := Lib.hid hrd3
      have htl := text_length t
      have HTX := Lib.hid (l1Text_any _ t _ _ _ _ (Nat.le_refl _) hwf (by omega) hrep)
      obtain ⟨tx, htx⟩ : ∃ tx, tx = t.text := ⟨_, rfl⟩
      rw [← htx] at HTX htl
      have hsz : tx.length ≤ 2000 := by omega
      clear hg3 hrep hrd3 htx htl
      go_wp2_with fail
      refine HTX.out.mono ?_
      rintro e w4 ⟨rfl, hb4⟩
      have HG4 := Lib.hid (grownBy_below HG3.out hb4)
      have HOWN4 := Lib.hid (owns_below HOWN3.out hb4)
      have HRD4 := Lib.hid (HRD3.out.grown (grownBy_below (grownBy_refl _ none) hb4) (fun _ e => by cases e))
      obtain ⟨s, hs⟩ : ∃ s : ByteArray, s = ⟨tx.toArray⟩ := ⟨_, rfl⟩
      have hss : s.size ≤ 2000 := by rw [hs]; change tx.toArray.size ≤ 2000; simpa using hsz
      rw [← hs]
      have hw4 := HG4.out.size
      have HOA := Lib.hid (World.ownsRow.alloc HOWN4.out (.cells #[.int .i64 z, .string s] 32 (0, 0)))
      clear hb4 hs hsz
      go_wp2_with (at_builtin; refine wpList_append_own_at _ rfl _ _ 23 rfl w.heap.size 32 i0 (.agg #[.int .i64 0, .string ⟨#[]⟩]) 2 24 Try.underlying23 hi0 hzz hzs hzby rfl (by decide) (.slice (some ⟨g, 0, none⟩) k vc) k (flatT ys) rfl HOA.out ⟨w4.heap.size, 0, none⟩ 1 1 [.int .i64 z, .string s] rfl rfl (cells_two (by simp) _ _) (by simp [Value.oneCell']) (by unfold maxLen; omega) (by omega) (by simp; omega) ?_; intro v3 w6 hown3 hg6 hnil3 hat3)
      obtain ⟨g3, q9, rfl, _, _, _⟩ := owns_some hown3 (fun e => by have := hnil3.1 e; simp at this)
      have ha4 : Below w4.heap.size w4 (w4.alloc (.cells #[.int .i64 z, .string s] 32 (0, 0))) := (Below.refl _ _).alloc (Nat.le_refl _) _
      have HO6 : Hid (w6.ownsRow w.heap.size 32 2 (.slice (some ⟨g3, 0, none⟩) (k + 1) q9) (k + 1) (flatT (ys ++ [(z, s)]))) := Lib.hid (by rw [flatT_snoc]; exact hown3)
      have HR6 := Lib.hid ((HRD4.out.grown (grownBy_below (grownBy_refl _ none) ha4) (fun _ e => by cases e)).grown hg6 (fun r e => by have := (HOWN4.out.lt r e).1; omega))
      have HG6 := Lib.hid (grownBy_over (grownBy_below HG4.out ha4) hg6 (fun r e => (HOWN4.out.lt r e).1))
      have HS6 := Lib.hid (HSM.out.snoc (y := (z, s)) hss hzb.1 hzb.2)
      clear hown3 hg6 hnil3 hat3 ha4
      exact ⟨⟨ys ++ [(z, s)], k + 1, g3, q9, q3, by rw [List.length_append]; have := HKY.out; simp; omega, by omega, by go_num, rfl, HO6.out, HR6.out, by omega, HS6.out, HG6.out⟩, by simp [intOf]; omega⟩
    · have HSO := Lib.hid (sSumOf_any ys k HKY.out g vc wr (by omega) (fun j hj => by have := (HSM.out j hj).1; omega) (owns_termL HKY.out HOWN.out))
      have hgb := (HOWN.out.lt g rfl).1
      have HTL := Lib.hid (owns_termL HKY.out HOWN.out)
      clear hr
      go_wp2_with fail
      refine HSO.out.mono ?_
      rintro e w2 ⟨hB2, ⟨hno, a3, c3, rfl⟩ | ⟨qs, g3, c3, cur, hyes, rfl, hg3, _, _, hl3⟩⟩
      · have HB2 := Lib.hid hB2
        clear hB2 hno
        go_wp2_with fail
        go_ret
        exact ⟨grownBy_below HGW.out HB2.out, ys, g, k, vc, q, rfl, HKY.out, by omega, HSM.out, HTL.out.below HB2.out, hgb, HR.out.grown (grownBy_below (grownBy_refl _ none) HB2.out) (fun _ e => by cases e), by omega⟩
      · obtain ⟨h60, htr⟩ := ofList_ok hyes
        have HB2 := Lib.hid hB2
        have HR2 := Lib.hid (HR.out.grown (grownBy_below (grownBy_refl _ none) hB2) (fun _ e => by cases e))
        have HP3 := Lib.hid (pick_any R a cap q 24 bs w2 HR2.out (by omega) (by omega) (by omega))
        have HL3 := Lib.hid hl3
        have HTR := Lib.hid (txt_small htr)
        obtain ⟨N, hN⟩ : ∃ N, N = qs.length := ⟨_, rfl⟩
        rw [← hN] at h60 ⊢
        have HNN : Hid (N = (txtTm qs).length) := Lib.hid (by rw [txtTm_length, hN])
        clear hB2 hyes hl3 htr hN
        go_wp2_with fail
        refine HP3.out.mono ?_
        rintro e w3 ⟨⟨x, hx, rfl⟩, hg3', hs3, hr3⟩
        have HG3 := Lib.hid (grownBy_trans (grownBy_below HGW.out HB2.out) hg3')
        have hk3 : ∀ (b : Nat) (zs : List (Int × ByteArray)), b ≠ R → TermL w2 b zs → TermL w3 b zs := fun b zs hb hz j hj => by
          obtain ⟨h1, h2⟩ := hz j hj
          exact ⟨keeps_row hg3' (fun b => b ≠ R) (fun b h => h) _ _ hb h1, keeps_row hg3' (fun b => b ≠ R) (fun b h => h) _ _ hb h2⟩
        have HK3 := Lib.hid hk3
        have HR3 := Lib.hid hr3
        have hgl : w.heap.size ≤ g3 := by omega
        clear hg3' hs3 hr3 hk3
        by_cases hx0 : x = 0
        · subst hx0
          go_wp2_with fail
          go_ret
          exact ⟨HG3.out, ys, g, k, vc, q + 1, rfl, HKY.out, by omega, HSM.out, HK3.out g ys (by omega) (HTL.out.below HB2.out), hgb, HR3.out, by omega⟩
        · have e1 : ((x : Int) == 0) = false := beq_false_of_ne (by omega)
          go_wp2_with fail
          go_ret
          exact ⟨HG3.out, txtTm qs, g3, N, c3, q + 1, rfl, HNN.out, h60, HTR.out, HK3.out g3 _ (by omega) HL3.out, hgl, HR3.out, by omega⟩

end Go.Proofs.Ytipodlckehodnaa
end
section
/- What the promises on sums say, as mathematics. No walk here. -/
namespace Go.Proofs.Ytipodlckehodnaa

mutual
theorem mir_mir : ∀ (t : T), t.mirror.mirror = t
  | .leaf => by simp [T.mirror]
  | .node c ks => by
    simp only [T.mirror]
    rw [mirrorL_eq, mirrorL_eq]
    simp only [List.map_reverse, List.reverse_reverse, List.map_map]
    congr 1
    exact mirL_mir ks
theorem mirL_mir : ∀ (ks : List T), ks.map (T.mirror ∘ T.mirror) = ks
  | [] => rfl
  | k :: ks => by simp [mir_mir k, mirL_mir ks]
end

/-- These terms are read from these texts. -/
def Reads (xs : List (Int × ByteArray)) (ps : List Tm) : Prop := xs.map (fun x => (x.1, parse x.2.data.toList)) = ps.map (fun p => (p.1, some p.2))
def Same (ps : List Tm) : Prop := ∀ p ∈ ps, ∀ q ∈ ps, p.2.leaves = q.2.leaves

theorem Reads.length {xs : List (Int × ByteArray)} {ps : List Tm} (h : Reads xs ps) : xs.length = ps.length := by
  have := congrArg List.length h
  simpa using this

theorem rdAll_reads {lo hi : Int} : ∀ (n : Nat) (xs : List (Int × ByteArray)) (ps : List Tm), xs.length = n → rdAll lo hi false xs = some ps → Reads xs ps := by
  intro n
  induction n with
  | zero =>
    intro xs ps hn h
    have : xs = [] := List.length_eq_zero_iff.1 hn
    subst this
    rw [rdAll_nil] at h
    cases h; rfl
  | succ n ih =>
    intro xs ps hn h
    have e : xs = xs.take n ++ [xs[n]] := by rw [← List.take_succ_eq_append_getElem (by omega), List.take_of_length_le (by omega)]
    have hl : (xs.take n).length = n := by rw [List.length_take]; omega
    generalize xs.take n = ys at e hl
    generalize xs[n] = x at e
    subst e
    rw [rdAll_snoc] at h
    cases hr : rdAll lo hi false ys with
    | none => rw [hr] at h; cases h
    | some qs =>
      have i1 := ih ys qs hl hr
      rw [hr] at h
      cases hp : parse x.2.data.toList with
      | none => rw [rdStep_no hp] at h; cases h
      | some t =>
        rw [rdStep_tree hp] at h
        split at h
        · cases h
          unfold Reads at i1 ⊢
          rw [List.map_append, List.map_append, i1]
          simp [hp]
        · cases h

theorem reads_rdAll {lo hi : Int} : ∀ (n : Nat) (xs : List (Int × ByteArray)) (ps : List Tm), xs.length = n → Reads xs ps → Same ps → (∀ p ∈ ps, lo ≤ p.1 ∧ p.1 ≤ hi) → rdAll lo hi false xs = some ps := by
  intro n
  induction n with
  | zero =>
    intro xs ps hn h _ _
    have : xs = [] := List.length_eq_zero_iff.1 hn
    subst this
    have hl := h.length
    have : ps = [] := List.length_eq_zero_iff.1 (by simpa using hl.symm)
    subst this; rfl
  | succ n ih =>
    intro xs ps hn h hs hr
    have hl := h.length
    have e : xs = xs.take n ++ [xs[n]] := by rw [← List.take_succ_eq_append_getElem (by omega), List.take_of_length_le (by omega)]
    have e2 : ps = ps.take n ++ [ps[n]] := by rw [← List.take_succ_eq_append_getElem (by omega), List.take_of_length_le (by omega)]
    have l1 : (xs.take n).length = n := by rw [List.length_take]; omega
    have l2 : (ps.take n).length = n := by rw [List.length_take]; omega
    generalize xs.take n = ys at e l1
    generalize xs[n] = x at e
    generalize ps.take n = qs at e2 l2
    generalize ps[n] = p at e2
    subst e
    subst e2
    unfold Reads at h
    rw [List.map_append, List.map_append] at h
    obtain ⟨h1, h2⟩ := List.append_inj h (by simp [l1, l2])
    simp only [List.map_cons, List.map_nil, List.cons.injEq, and_true, Prod.mk.injEq] at h2
    rw [rdAll_snoc, ih ys qs l1 h1 (fun a ha b hb => hs a (by simp [ha]) b (by simp [hb])) (fun a ha => hr a (by simp [ha])), rdStep_tree h2.2, if_pos]
    · rw [h2.1]
    · have hp := hr p (by simp)
      have hf : fitsHd qs p.2 = true := by
        cases qs with
        | nil => rfl
        | cons q qs => simp only [fitsHd, decide_eq_true_eq]; exact hs p (by simp) q (by simp)
      rw [h2.1]
      simp [fits, hp.1, hp.2, hf]

theorem Reads.txt : ∀ {xs : List (Int × ByteArray)} {ps : List Tm}, Reads xs ps → txtTm ps = xs
  | [], [], _ => rfl
  | [], p :: ps, h => by cases h
  | x :: xs, [], h => by cases h
  | x :: xs, p :: ps, h => by
    unfold Reads at h
    simp only [List.map_cons, List.cons.injEq, Prod.mk.injEq] at h
    have ih := Reads.txt (xs := xs) (ps := ps) h.2
    have ht := (parse_some h.1.2).2.1
    simp only [txtTm, List.map_cons, List.cons.injEq]
    refine ⟨?_, ih⟩
    obtain ⟨x1, ⟨⟨l⟩⟩⟩ := x
    have h1 : x1 = p.1 := h.1.1
    have ht' : l = p.2.text := ht
    rw [← h1, ← ht']

theorem reads_txt : ∀ {ps : List Tm}, (∀ p ∈ ps, p.2.wf ∧ p.2.leaves ≤ 12 ∧ p.2.nodes ≤ 16) → Reads (txtTm ps) ps
  | [], _ => rfl
  | p :: ps, h => by
    have ih := reads_txt (ps := ps) (fun q hq => h q (by simp [hq]))
    have hp := h p (by simp)
    unfold Reads at ih ⊢
    simp only [txtTm, List.map_cons, List.cons.injEq, Prod.mk.injEq, true_and] at ih ⊢
    exact ⟨parse_text hp.1 hp.2.1 hp.2.2, ih⟩

theorem sum_reads {xs : List (Int × ByteArray)} {ps : List Tm} (h : sumOf xs = some ps) : Reads xs ps := by
  unfold sumOf at h
  split at h
  · cases h
  · exact rdAll_reads _ xs ps rfl ((rdAll_desc (lo := 1) (hi := 100) _ xs rfl).2 ps h)

theorem sum_same {xs : List (Int × ByteArray)} {ps : List Tm} (h : sumOf xs = some ps) : Same ps := (sumOf_ok h).2.2.1.same

theorem sum_txt {xs : List (Int × ByteArray)} {ps : List Tm} (h : sumOf xs = some ps) : txtTm ps = xs := (sum_reads h).txt

theorem terms_of_sum {xs : List (Int × ByteArray)} {ps : List Tm} (h : sumOf xs = some ps) : termsOf (-1000000) 1000000 xs = some ps := by
  obtain ⟨h1, h2, h3, _⟩ := sumOf_ok h
  rw [termsOf, if_neg (by omega)]
  exact reads_rdAll _ xs ps rfl (sum_reads h) (sum_same h) (fun p hp => by have := h3.coef p hp; omega)

/-- What is a sum reads back as one. -/
theorem ok_sum {ps : List Tm} (hnf : NF ps) (hl : ps.length ≤ 60) (ht : ∀ p ∈ ps, p.2.leaves ≤ 12 ∧ p.2.nodes ≤ 16) (hs : Same ps) : sumOf (txtTm ps) = some ps := by
  refine sum_of_terms ?_ hnf.1
  rw [termsOf, if_neg (by rw [txtTm_length]; omega)]
  exact reads_rdAll _ _ ps rfl (reads_txt (fun p hp => ⟨(hnf.2 p hp).2.2, ht p hp⟩)) hs (fun p hp => ⟨(hnf.2 p hp).1, (hnf.2 p hp).2.1⟩)

theorem outOf_yes {ps : List Tm} (hl : ps.length ≤ 60) (ht : ∀ p ∈ ps, p.2.leaves ≤ 12 ∧ p.2.nodes ≤ 16) : outOf ps = some ps := by
  rw [outOf, if_pos (bounded_yes hl (fun k hk => by have := ht _ (List.getElem_mem hk); simp [small, this.1, this.2]))]

theorem outOf_some {ps qs : List Tm} (h : outOf ps = some qs) : qs = ps ∧ ps.length ≤ 60 ∧ ∀ p ∈ ps, p.2.leaves ≤ 12 ∧ p.2.nodes ≤ 16 := by
  unfold outOf at h
  split at h
  · rename_i hb
    cases h
    simp only [bounded, Bool.and_eq_true, decide_eq_true_eq, List.all_eq_true, small] at hb
    exact ⟨rfl, hb.1, fun p hp => hb.2 p hp⟩
  · cases h

theorem Same.canon {ps : List Tm} (h : Same ps) : Same (canon ps) := fun p hp q hq => by
  obtain ⟨p', h1, e1⟩ := mem_canon hp
  obtain ⟨q', h2, e2⟩ := mem_canon hq
  rw [e1, e2]; exact h p' h1 q' h2

theorem canon_bnd {ps : List Tm} (h : ∀ p ∈ ps, p.2.leaves ≤ 12 ∧ p.2.nodes ≤ 16) : ∀ p ∈ canon ps, p.2.leaves ≤ 12 ∧ p.2.nodes ≤ 16 := fun p hp => by
  obtain ⟨q, hq, e⟩ := mem_canon hp
  rw [e]; exact h q hq

theorem alike_same {ps qs : List Tm} (h1 : Same ps) (h2 : Same qs) (h : alike ps qs = true) : Same (ps ++ qs) := by
  cases ps with
  | nil => simpa using h2
  | cons p ps =>
    cases qs with
    | nil => simpa using h1
    | cons q qs =>
      have e : p.2.leaves = q.2.leaves := of_decide_eq_true h
      have key : ∀ a ∈ (p :: ps) ++ (q :: qs), a.2.leaves = p.2.leaves := fun a ha => by
        rcases List.mem_append.1 ha with ha | ha
        · exact h1 a ha p (by simp)
        · rw [h2 a ha q (by simp), e]
      intro a ha b hb
      rw [key a ha, key b hb]

theorem same_alike {ps qs : List Tm} (h : Same (ps ++ qs)) : alike ps qs = true := by
  cases ps with
  | nil => rfl
  | cons p ps =>
    cases qs with
    | nil => rfl
    | cons q qs => exact decide_eq_true (h p (by simp) q (by simp))

theorem Same.swap {ps qs : List Tm} (h : Same (ps ++ qs)) : Same (qs ++ ps) := fun a ha b hb => h a (by simp at ha ⊢; exact ha.symm) b (by simp at hb ⊢; exact hb.symm)

/-- It is enough to look at trees. -/
theorem canon_wf {ps qs : List Tm} (hp : ∀ p ∈ ps, p.2.wf) (hq : ∀ p ∈ qs, p.2.wf) (h : ∀ t : T, t.wf → (cf ps t - cf qs t) % 101 = 0) : canon ps = canon qs := by
  refine canon_congr hp hq (fun t => ?_)
  by_cases he : ∃ p ∈ ps ++ qs, ordT p.2 t = 0
  · obtain ⟨p, hm, h0⟩ := he
    have hw : p.2.wf := by
      rcases List.mem_append.1 hm with h1 | h1
      · exact hp p h1
      · exact hq p h1
    rw [← cf_congr ps h0, ← cf_congr qs h0]
    exact h _ hw
  · rw [cf_none (fun p hm h0 => he ⟨p, by simp [hm], h0⟩), cf_none (fun p hm h0 => he ⟨p, by simp [hm], h0⟩)]; rfl

theorem cf_scl (m : Int) : ∀ (ps : List Tm) (t : T), cf (sclTm m ps) t = m * cf ps t
  | [], t => by simp [sclTm, cf]
  | p :: ps, t => by
    have ih := cf_scl m ps t
    simp only [sclTm, List.map_cons] at ih ⊢
    rw [cf, cf, ih, Int.mul_add]
    congr 1
    split
    · rfl
    · simp

theorem cf_mir : ∀ (ps : List Tm) (t : T), (∀ p ∈ ps, p.2.wf) → t.wf → cf (mirTm ps) t = cf ps t.mirror
  | [], t, _, _ => by simp [mirTm, cf]
  | p :: ps, t, hp, ht => by
    have ih := cf_mir ps t (fun q hq => hp q (by simp [hq])) ht
    have hw := hp p (by simp)
    simp only [mirTm, List.map_cons] at ih ⊢
    rw [cf, cf, ih]
    congr 1
    have e : (ordT p.2.mirror t = 0) ↔ (ordT p.2 t.mirror = 0) := by
      constructor
      · intro h
        have := ordT_zero (mirror_wf _ hw) ht h
        rw [← this, mir_mir]; exact isCmp_ordT.self _
      · intro h
        have := ordT_zero hw (mirror_wf _ ht) h
        rw [this, mir_mir]; exact isCmp_ordT.self _
    simp only [e]

/-! ### The promises -/

theorem fnSum_told {xs : List (Int × ByteArray)} {ps : List Tm} (h : sumOf xs = some ps) : ofList xs = some ps ∧ addOf xs [] = some ps ∧ txtTm ps = xs := by
  obtain ⟨h1, h2, h3⟩ := sum_trees h
  have hb : ∀ p ∈ ps, p.2.leaves ≤ 12 ∧ p.2.nodes ≤ 16 := fun p hp => ⟨(h2 p hp).2.1, (h2 p hp).2.2.1⟩
  refine ⟨by rw [ofList, terms_of_sum h]; simp only [canon_self h3]; exact outOf_yes h1 hb, ?_, sum_txt h⟩
  have e : sumOf ([] : List (Int × ByteArray)) = some [] := rfl
  rw [addOf, h, e]
  have ha : alike ps [] = true := by cases ps <;> rfl
  simp only [ha, if_true, List.append_nil, canon_self h3]
  exact outOf_yes h1 hb

theorem fnSumOf_told {xs : List (Int × ByteArray)} {qs : List Tm} (h : ofList xs = some qs) : ofList xs.reverse = some qs ∧ (sumOf (txtTm qs)).isSome = true := by
  unfold ofList at h
  split at h
  · cases h
  · rename_i ps hp
    obtain ⟨rfl, hl, ht⟩ := outOf_some h
    obtain ⟨h1, h2, h3⟩ := termsOf_ok hp
    have hw : ∀ p ∈ ps, p.2.wf := fun p hq => (h3.tree p hq).1
    constructor
    · have hrd : Reads xs ps := by
        unfold termsOf at hp
        split at hp
        · cases hp
        · exact rdAll_reads _ xs ps rfl hp
      have hr : termsOf (-1000000) 1000000 xs.reverse = some ps.reverse := by
        rw [termsOf, if_neg (by rw [List.length_reverse]; omega)]
        refine reads_rdAll _ _ _ rfl ?_ (fun p hp q hq => h3.same p (by simpa using hp) q (by simpa using hq)) (fun p hq => h3.coef p (by simpa using hq))
        unfold Reads at hrd ⊢
        rw [List.map_reverse, List.map_reverse, hrd]
      rw [ofList, hr]
      show outOf (canon ps.reverse) = some (canon ps)
      rw [canon_perm (fun p hq => hw p (by simpa using hq)) (List.reverse_perm ps)]
      exact h
    · rw [ok_sum (NF.canon hw) hl ht (Same.canon h3.same)]; rfl

theorem scl_told {xs : List (Int × ByteArray)} {ps : List Tm} (h : sumOf xs = some ps) (m : Int) (h1 : -1000000 ≤ m) (h2 : m ≤ 1000000) : sclOf xs m = some (canon (sclTm m ps)) ∧ sumOf (txtTm (canon (sclTm m ps))) = some (canon (sclTm m ps)) := by
  obtain ⟨hl, ht, hnf⟩ := sum_trees h
  have hm : ∀ p ∈ sclTm m ps, p.2.wf ∧ p.2.leaves ≤ 12 ∧ p.2.nodes ≤ 16 := fun p hp => by
    obtain ⟨q, hq, rfl⟩ := List.mem_map.1 hp
    exact ⟨(ht q hq).1, (ht q hq).2.1, (ht q hq).2.2.1⟩
  have hb := canon_bnd (fun p hp => (hm p hp).2)
  have hln : (canon (sclTm m ps)).length ≤ 60 := by have := canon_length (sclTm m ps); rw [sclTm_length] at this; omega
  have hs : Same (sclTm m ps) := fun p hp q hq => by
    obtain ⟨p', h1, rfl⟩ := List.mem_map.1 hp
    obtain ⟨q', h2, rfl⟩ := List.mem_map.1 hq
    exact sum_same h p' h1 q' h2
  refine ⟨?_, ok_sum (NF.canon (fun p hp => (hm p hp).1)) hln hb hs.canon⟩
  rw [sclOf, h]
  simp only [if_pos (And.intro h1 h2)]
  exact outOf_yes hln hb

theorem fnAdd_told {xs ys : List (Int × ByteArray)} {qs : List Tm} (h : addOf xs ys = some qs) : addOf ys xs = some qs ∧ ∃ ms ps, sclOf ys (-1) = some ms ∧ sumOf xs = some ps ∧ addOf (txtTm qs) (txtTm ms) = some ps ∧ txtTm ps = xs := by
  unfold addOf at h
  split at h
  · rename_i ps zs hx hy
    split at h
    · rename_i ha
      obtain ⟨rfl, hl, ht⟩ := outOf_some h
      obtain ⟨hl1, ht1, hn1⟩ := sum_trees hx
      obtain ⟨hl2, ht2, hn2⟩ := sum_trees hy
      have hw1 : ∀ p ∈ ps, p.2.wf := fun p hp => (ht1 p hp).1
      have hw2 : ∀ p ∈ zs, p.2.wf := fun p hp => (ht2 p hp).1
      have hw : ∀ p ∈ ps ++ zs, p.2.wf := fun p hp => by
        rcases List.mem_append.1 hp with h1 | h1
        · exact hw1 p h1
        · exact hw2 p h1
      have hs := alike_same (sum_same hx) (sum_same hy) ha
      obtain ⟨e1, e2⟩ := scl_told hy (-1) (by omega) (by omega)
      have hq := ok_sum (NF.canon hw) hl ht hs.canon
      constructor
      · rw [addOf, hy, hx]
        simp only [same_alike hs.swap, if_true]
        rw [canon_perm (fun p hp => hw p (by simp at hp ⊢; exact hp.symm)) List.perm_append_comm]
        exact h
      · refine ⟨_, ps, e1, hx, ?_, sum_txt hx⟩
        rw [addOf, hq, e2]
        have hwm : ∀ p ∈ canon (sclTm (-1) zs), p.2.wf := fun p hp => by
          obtain ⟨q, h1, e⟩ := mem_canon hp
          obtain ⟨r, h2, rfl⟩ := List.mem_map.1 h1
          rw [e]; exact hw2 r h2
        have hal : alike (canon (ps ++ zs)) (canon (sclTm (-1) zs)) = true := same_alike (fun a ha b hb => by
          have key : ∀ a ∈ canon (ps ++ zs) ++ canon (sclTm (-1) zs), ∃ q ∈ ps ++ zs, a.2 = q.2 := fun a ha => by
            rcases List.mem_append.1 ha with h1 | h1
            · exact mem_canon h1
            · obtain ⟨q, h2, e⟩ := mem_canon h1
              obtain ⟨r, h3, rfl⟩ := List.mem_map.1 h2
              exact ⟨r, by simp [h3], e⟩
          obtain ⟨q, h1, e⟩ := key a ha
          obtain ⟨r, h2, e'⟩ := key b hb
          rw [e, e']; exact hs q h1 r h2)
        simp only [hal, if_true]
        have hc : canon (canon (ps ++ zs) ++ canon (sclTm (-1) zs)) = canon ps := canon_congr (fun p hp => by
          rcases List.mem_append.1 hp with h1 | h1
          · obtain ⟨q, h2, e⟩ := mem_canon h1
            rw [e]; exact hw q h2
          · exact hwm p h1) hw1 (fun t => by
          have c1 := cf_canon (ps ++ zs) t
          have c2 := cf_canon (sclTm (-1) zs) t
          rw [cf_append] at c1 ⊢
          rw [cf_scl] at c2
          omega)
        rw [hc, canon_self hn1]
        exact outOf_yes hl1 (fun p hp => ⟨(ht1 p hp).2.1, (ht1 p hp).2.2.1⟩)
    · cases h
  · cases h

theorem fnScale_told {xs : List (Int × ByteArray)} {m : Int} {qs : List Tm} (h : sclOf xs m = some qs) : ∃ rs, addOf (txtTm qs) xs = some rs ∧ ∀ us, sclOf xs (m + 1) = some us → us = rs := by
  have h0 := h
  unfold sclOf at h
  split at h
  · cases h
  · rename_i ps hx
    split at h
    · rename_i hm
      obtain ⟨hl1, ht1, hn1⟩ := sum_trees hx
      have hw1 : ∀ p ∈ ps, p.2.wf := fun p hp => (ht1 p hp).1
      obtain ⟨e1, e2⟩ := scl_told hx m hm.1 hm.2
      have eq : qs = canon (sclTm m ps) := by rw [e1] at h0; exact (Option.some.inj h0).symm
      subst eq
      have hws : ∀ (n : Int), ∀ p ∈ sclTm n ps, p.2.wf ∧ p.2.leaves ≤ 12 ∧ p.2.nodes ≤ 16 := fun n p hp => by
        obtain ⟨q, hq, rfl⟩ := List.mem_map.1 hp
        exact ⟨(ht1 q hq).1, (ht1 q hq).2.1, (ht1 q hq).2.2.1⟩
      have hc : canon (canon (sclTm m ps) ++ ps) = canon (sclTm (m + 1) ps) := canon_congr (fun p hp => by
        rcases List.mem_append.1 hp with h1 | h1
        · obtain ⟨q, h2, e⟩ := mem_canon h1
          rw [e]; exact (hws m q h2).1
        · exact hw1 p h1) (fun p hp => (hws (m + 1) p hp).1) (fun t => by
        have c1 := cf_canon (sclTm m ps) t
        rw [cf_append, cf_scl]
        rw [cf_scl] at c1
        have : (m + 1) * cf ps t = m * cf ps t + cf ps t := by rw [Int.add_mul, Int.one_mul]
        omega)
      refine ⟨canon (sclTm (m + 1) ps), ?_, fun us hu => ?_⟩
      · rw [addOf, e2, hx]
        have hal : alike (canon (sclTm m ps)) ps = true := same_alike (fun a ha b hb => by
          have key : ∀ a ∈ canon (sclTm m ps) ++ ps, ∃ q ∈ ps, a.2 = q.2 := fun a ha => by
            rcases List.mem_append.1 ha with h1 | h1
            · obtain ⟨q, h2, e⟩ := mem_canon h1
              obtain ⟨r, h3, rfl⟩ := List.mem_map.1 h2
              exact ⟨r, h3, e⟩
            · exact ⟨a, h1, rfl⟩
          obtain ⟨q, h1, e⟩ := key a ha
          obtain ⟨r, h2, e'⟩ := key b hb
          rw [e, e']; exact sum_same hx q h1 r h2)
        simp only [hal, if_true]
        rw [hc]
        exact outOf_yes (by have := canon_length (sclTm (m + 1) ps); rw [sclTm_length] at this; omega) (canon_bnd (fun p hp => (hws (m + 1) p hp).2))
      · unfold sclOf at hu
        rw [hx] at hu
        simp only at hu
        split at hu
        · exact (outOf_some hu).1
        · cases hu
    · cases h

theorem fnMirror_told {xs : List (Int × ByteArray)} {qs : List Tm} (h : mirOf xs = some qs) : ∃ ps, sumOf xs = some ps ∧ mirOf (txtTm qs) = some ps ∧ txtTm ps = xs ∧ qs.length = xs.length := by
  unfold mirOf at h
  split at h
  · cases h
  · rename_i ps hx
    obtain ⟨rfl, hl, ht⟩ := outOf_some h
    obtain ⟨hl1, ht1, hn1⟩ := sum_trees hx
    have hw1 : ∀ p ∈ ps, p.2.wf := fun p hp => (ht1 p hp).1
    have hm := mirTm_ok (L := 12) (N := 16) (fun p hp => ⟨(ht1 p hp).1, (ht1 p hp).2.1, (ht1 p hp).2.2.1⟩)
    have hs : Same (mirTm ps) := fun p hp q hq => by
      obtain ⟨p', h1, rfl⟩ := List.mem_map.1 hp
      obtain ⟨q', h2, rfl⟩ := List.mem_map.1 hq
      have e1 := (mirror_size p'.2).1
      have e2 := (mirror_size q'.2).1
      have := sum_same hx p' h1 q' h2
      show p'.2.mirror.leaves = q'.2.mirror.leaves
      omega
    have hq := ok_sum (NF.canon (fun p hp => (hm p hp).1)) hl ht hs.canon
    have hcw : ∀ p ∈ canon (mirTm ps), p.2.wf := fun p hp => by
      obtain ⟨q, h1, e⟩ := mem_canon hp
      rw [e]; exact (hm q h1).1
    have hc : canon (mirTm (canon (mirTm ps))) = canon ps := canon_wf (fun p hp => by
      obtain ⟨q, h1, rfl⟩ := List.mem_map.1 hp
      exact mirror_wf _ (hcw q h1)) hw1 (fun t ht => by
      rw [cf_mir _ _ hcw ht]
      have c1 := cf_canon (mirTm ps) t.mirror
      rw [cf_mir _ _ hw1 (mirror_wf _ ht), mir_mir] at c1
      exact c1)
    rw [canon_self hn1] at hc
    refine ⟨ps, hx, ?_, sum_txt hx, ?_⟩
    · rw [mirOf, hq]
      simp only [hc]
      exact outOf_yes hl1 (fun p hp => ⟨(ht1 p hp).2.1, (ht1 p hp).2.2.1⟩)
    · have l1 := canon_length (mirTm ps)
      have l2 := canon_length (mirTm (canon (mirTm ps)))
      rw [hc, mirTm_length] at l2
      rw [mirTm_length] at l1
      have := (sumOf_ok hx).1
      omega

theorem nf_cf_range : ∀ {ps : List Tm} (t : T), NF ps → 0 ≤ cf ps t ∧ cf ps t < 101
  | [], t, _ => by simp [cf]
  | p :: ps, t, h => by
    by_cases h0 : ordT p.2 t = 0
    · rw [← cf_congr _ h0, h.cf_head]
      have := h.2 p (by simp)
      omega
    · rw [cf, if_neg h0]
      have := nf_cf_range t h.tail
      omega

theorem fnCoef_told {xs : List (Int × ByteArray)} {s : ByteArray} (h : 0 ≤ coefV xs s) : ∃ ms, sclOf xs (-1) = some ms ∧ coefV xs s < 101 ∧ (coefV xs s + coefV (txtTm ms) s) % 101 = 0 ∧ 0 ≤ coefV (txtTm ms) s ∧ coefV (txtTm ms) s < 101 := by
  cases hx : sumOf xs with
  | none => rw [coefV_no1 hx] at h; omega
  | some ps =>
    cases hp : parse s.data.toList with
    | none => rw [coefV_no2 hp] at h; omega
    | some t =>
      obtain ⟨e1, e2⟩ := scl_told hx (-1) (by omega) (by omega)
      obtain ⟨_, ht, hn⟩ := sum_trees hx
      refine ⟨_, e1, ?_⟩
      rw [coefV_yes hx hp, coefV_yes e2 hp]
      have hw : ∀ p ∈ sclTm (-1) ps, p.2.wf := fun p hp => by
        obtain ⟨q, hq, rfl⟩ := List.mem_map.1 hp
        exact (ht q hq).1
      have r1 := nf_cf_range t hn
      have r2 := nf_cf_range t (NF.canon hw)
      have c := cf_canon (sclTm (-1) ps) t
      rw [cf_scl] at c
      exact ⟨r1.2, by omega, r2.1, r2.2⟩

theorem fnLead_told {xs : List (Int × ByteArray)} {ps : List Tm} (h : sumOf xs = some ps) (h0 : 0 < xs.length) : coefV xs (xs[0]).2 = (xs[0]).1 ∧ ∃ t, parse (xs[0]).2.data.toList = some t ∧ ∀ j (hj : j < xs.length), ∃ u, parse (xs[j]).2.data.toList = some u ∧ ordT u t ≤ 0 := by
  have hr := sum_reads h
  have hl := hr.length
  obtain ⟨_, ht, hn⟩ := sum_trees h
  have hk : ∀ j (hj : j < xs.length), (xs[j]).1 = (ps[j]'(by omega)).1 ∧ parse (xs[j]).2.data.toList = some (ps[j]'(by omega)).2 := fun j hj => by
    have := congrArg (fun l => l[j]?) hr
    simp only [List.getElem?_map, List.getElem?_eq_getElem hj, List.getElem?_eq_getElem (show j < ps.length by omega), Option.map_some, Option.some.injEq, Prod.mk.injEq] at this
    exact this
  obtain ⟨a0, p0⟩ := hk 0 h0
  refine ⟨?_, _, p0, fun j hj => ⟨_, (hk j hj).2, ?_⟩⟩
  · rw [coefV_yes h p0, a0]
    cases ps with
    | nil => simp only [List.length_nil] at hl; omega
    | cons p ps => exact hn.cf_head
  · by_cases hj0 : j = 0
    · subst hj0
      rw [isCmp_ordT.self]; omega
    · have := List.pairwise_iff_getElem.1 hn.1 0 j (by omega) (by omega) (by omega)
      have := isCmp_ordT.anti (ps[0]'(by omega)).2 (ps[j]'(by omega)).2
      omega

end Go.Proofs.Ytipodlckehodnaa
end
section
/- Two sums compared; what the calls answer where they are told; sums that are drawn for the promises. -/
namespace Go.Proofs.Ytipodlckehodnaa
open Go.RowKit

theorem TermL.o {w : World} {g : Nat} {ys : List (Int × ByteArray)} (h : TermL w g ys) : TermO w (some ⟨g, 0, none⟩) ys := fun j hj => by
  obtain ⟨h1, h2⟩ := h j hj
  exact ⟨g, 0, rfl, by rw [Nat.zero_add]; exact h1, by rw [Nat.zero_add]; exact h2⟩

theorem TermO.none {w : World} {a : Option Addr} : TermO w a [] := fun _ h => by simp at h

set_option maxRecDepth 100000 in
set_option maxHeartbeats 1000000 in
/-- Equal sums are told so. -/
theorem sameSum_any (ys : List (Int × ByteArray)) (n : Nat) (hny : n = ys.length) (a b : Option Addr) (ca cb : Nat) (w : World) (hn : n ≤ 1048576) (ha : TermO w a ys) (hb : TermO w b ys) :
    Calls Try.prog 18 #[.slice a n ca, .slice b n cb] w (Ans (.bool true) w) := by
  have HA := Lib.hid ha
  have HB := Lib.hid hb
  have HNN := Lib.hid hny
  clear ha hb hny
  go_enter Try.func18, Try.ntmps18
  go_wp2_with fail
  go_loopw [5] (fun i wr => ∃ k : Nat, k ≤ n ∧ i = .int .i64 k ∧ Below w.heap.size w wr) (fun i _ => n - (intOf i).toNat)
  case atStart => exact ⟨0, Nat.zero_le _, rfl, Below.refl _ _⟩
  case round =>
    obtain ⟨k, hk, rfl, hB⟩ := hrel
    by_cases hlt : k < n
    · have hlt' : k < ys.length := by rw [← HNN.out]; exact hlt
      obtain ⟨b1, o1, rfl, c1, c2⟩ := (HA.out.below hB) k hlt'
      obtain ⟨b2, o2, rfl, c3, c4⟩ := (HB.out.below hB) k hlt'
      obtain ⟨x, hx⟩ : ∃ x, x = (ys[k]).1 := ⟨_, rfl⟩
      obtain ⟨s, hs⟩ : ∃ s, s = (ys[k]).2 := ⟨_, rfl⟩
      rw [← hx] at c1 c3
      rw [← hs] at c2 c4
      have k0 : (0 : Int) ≤ k := by omega
      have HBR := Lib.hid hB
      clear hx hs hB
      go_wp2_with fail
      go_quiet (fail)
      go_wp2_with fail
      go_roundw
      case rel => exact ⟨k + 1, by omega, by go_num, below_drewN HBR.out nq⟩
      case measure => simp [intOf]; omega
    · go_wp2_with fail
      go_ret
      exact ⟨rfl, hB⟩

/-- A list is told, new. -/
def GotL (zs : List (Int × ByteArray)) (N : Nat) (w : World) (e : Ending) (w' : World) : Prop :=
  Below w.heap.size w w' ∧ ∃ g c, e = .returned (.tuple #[.slice (some ⟨g, 0, none⟩) N c, .bool true]) ∧ TermL w' g zs
def LostL (w : World) (e : Ending) (w' : World) : Prop := Below w.heap.size w w' ∧ ∃ a c, e = .returned (.tuple #[.slice a 0 c, .bool false])

theorem TermsPost.gotL {qs : List Tm} {zs : List (Int × ByteArray)} {N : Nat} {w w' : World} {e : Ending} (h : TermsPost (some qs) w e w') (hN : N = qs.length) (hz : txtTm qs = zs) : GotL zs N w e w' := by
  obtain ⟨hB, ⟨h1, _⟩ | ⟨qs', g, c, cur, h1, rfl, _, _, _, h2⟩⟩ := h
  · cases h1
  · cases h1
    subst hN
    subst hz
    exact ⟨hB, g, c, rfl, h2⟩
theorem TermsPost.lostL {w w' : World} {e : Ending} (h : TermsPost none w e w') : LostL w e w' := by
  obtain ⟨hB, ⟨_, a, c, rfl⟩ | ⟨qs', g, c, cur, h1, _⟩⟩ := h
  · exact ⟨hB, a, c, rfl⟩
  · cases h1

theorem TmSmall.size {ys : List (Int × ByteArray)} (h : TmSmall ys) : ∀ j (h : j < ys.length), (ys[j]).2.size ≤ 1048576 := fun j hj => by have := (h j hj).1; omega

theorem outOf_txt {ps qs : List Tm} (h : outOf ps = some qs) (hc : ∀ p ∈ ps, 1 ≤ p.1 ∧ p.1 ≤ 100) : TmSmall (txtTm qs) := by
  obtain ⟨rfl, _, ht⟩ := outOf_some h
  exact txt_small (fun p hp => ⟨(ht p hp).1, (ht p hp).2, (hc p hp).1, (hc p hp).2⟩)

/-- A list of terms is drawn. -/
def DrL (w : World) (e : Ending) (w' : World) : Prop :=
  Below w.heap.size w w' ∧ ∃ (ys : List (Int × ByteArray)) (g n c : Nat), e = .returned (.slice (some ⟨g, 0, none⟩) n c) ∧ n = ys.length ∧ n ≤ 60 ∧ TmSmall ys ∧ TermL w' g ys

theorem SumDr.size {R : Nat} {a : Option Addr} {cap : Nat} {bs : List Nat} {p : Nat} {w w' : World} {e : Ending} (h : SumDr R a cap bs p w e w') : w.heap.size ≤ w'.heap.size := h.1.size

set_option maxRecDepth 100000 in
set_option maxHeartbeats 1000000 in
theorem dSumV_any (bs : List Nat) (a : Option Addr) (cap : Nat) (w : World) (hn : bs.length ≤ 9223372036854775807) (hcap : bs.length ≤ cap) (h8 : ∀ z ∈ bs, z ≤ 255) (hl : LiesB w a bs) :
    Calls Try.prog 13 #[.slice a bs.length cap] w (DrL w) := by
  have HO := Lib.hid (l6Open_any bs a cap w hn hcap h8 hl)
  clear h8 hl
  go_enter Try.func13, Try.ntmps13
  go_wp2_with fail
  refine HO.out.mono ?_
  rintro e w1 ⟨rfl, hb1, hr1⟩
  have HP := Lib.hid (pick_any w.heap.size a cap 0 4 (bs.take 2000) w1 hr1 (by omega) (by omega) (by omega))
  have HB1 := Lib.hid hb1
  clear hb1 hr1
  go_wp2_with fail
  refine HP.out.mono ?_
  rintro e w2 ⟨⟨k, hk, rfl⟩, hg2, hs2, hr2⟩
  obtain ⟨m, hm⟩ : ∃ m, m = 1 + k := ⟨_, rfl⟩
  have hwm : IntKind.i64.wrap (1 + (k : Int)) = (m : Int) := by rw [IntKind.wrap_i64]; omega
  have hm1 : 1 ≤ m ∧ m ≤ 4 := by omega
  have HB2 := Lib.hid (below_over HB1.out hg2 (fun r e => by cases e; exact Nat.le_refl _))
  have HX := Lib.hid (l91Sum_any w.heap.size a cap (bs.take 2000) 1 m w2 (by omega) (by omega) (by omega) hr2)
  clear hg2 hs2 hr2 hm
  go_wp2_with fail
  refine HX.out.mono ?_
  rintro e w3 ⟨hg3, ys, g, n, c, q, rfl, hny, hn60, hsm, htl, hge, hr3, hq⟩
  have HB3 := Lib.hid (below_over HB2.out hg3 (fun r e => by cases e; exact Nat.le_refl _))
  have HNY := Lib.hid hny
  clear hg3 hr3 hny
  go_wp2_with fail
  go_ret
  exact ⟨HB3.out, ys, g, n, c, rfl, HNY.out, hn60, hsm, htl⟩

set_option maxRecDepth 100000 in
theorem dSumLead_any (bs : List Nat) (a : Option Addr) (cap : Nat) (w : World) (hn : bs.length ≤ 9223372036854775807) (hcap : bs.length ≤ cap) (h8 : ∀ z ∈ bs, z ≤ 255) (hl : LiesB w a bs) :
    Calls Try.prog 29 #[.slice a bs.length cap] w (DrL w) := by
  have HO := Lib.hid (dSumV_any bs a cap w hn hcap h8 hl)
  clear h8 hl
  go_enter Try.func29, Try.ntmps29
  go_wp2_with fail
  refine HO.out.mono ?_
  rintro e w1 ⟨hB, ys, g, n, c, rfl, h1, h2, h3, h4⟩
  have HNY := Lib.hid h1
  clear h1
  go_wp2_with fail
  go_ret
  exact ⟨hB, ys, g, n, c, rfl, HNY.out, h2, h3, h4⟩

set_option maxRecDepth 100000 in
theorem dSumMirror_any (bs : List Nat) (a : Option Addr) (cap : Nat) (w : World) (hn : bs.length ≤ 9223372036854775807) (hcap : bs.length ≤ cap) (h8 : ∀ z ∈ bs, z ≤ 255) (hl : LiesB w a bs) :
    Calls Try.prog 33 #[.slice a bs.length cap] w (DrL w) := by
  have HO := Lib.hid (dSumV_any bs a cap w hn hcap h8 hl)
  clear h8 hl
  go_enter Try.func33, Try.ntmps33
  go_wp2_with fail
  refine HO.out.mono ?_
  rintro e w1 ⟨hB, ys, g, n, c, rfl, h1, h2, h3, h4⟩
  have HNY := Lib.hid h1
  clear h1
  go_wp2_with fail
  go_ret
  exact ⟨hB, ys, g, n, c, rfl, HNY.out, h2, h3, h4⟩

/-- A list of terms and a number are drawn. -/
def DrLI (w : World) (e : Ending) (w' : World) : Prop :=
  Below w.heap.size w w' ∧ ∃ (ys : List (Int × ByteArray)) (g n c : Nat) (z : Int), e = .returned (.tuple #[.slice (some ⟨g, 0, none⟩) n c, .int .i64 z]) ∧ n = ys.length ∧ n ≤ 60 ∧ TmSmall ys ∧ TermL w' g ys ∧ -1000 ≤ z ∧ z ≤ 1000

/-- A list lies as before where the reader alone has moved. -/
theorem TermL.moved {w w' : World} {R g : Nat} {ys : List (Int × ByteArray)} (h : TermL w g ys) (hg : w.grownBy w' (some R)) (hne : g ≠ R) : TermL w' g ys := fun j hj => by
  obtain ⟨h1, h2⟩ := h j hj
  exact ⟨keeps_row hg (fun b => b ≠ R) (fun b h => h) _ _ hne h1, keeps_row hg (fun b => b ≠ R) (fun b h => h) _ _ hne h2⟩

set_option maxRecDepth 100000 in
set_option maxHeartbeats 1000000 in
theorem dScale_any (bs : List Nat) (a : Option Addr) (cap : Nat) (w : World) (hn : bs.length ≤ 9223372036854775807) (hcap : bs.length ≤ cap) (h8 : ∀ z ∈ bs, z ≤ 255) (hl : LiesB w a bs) :
    Calls Try.prog 24 #[.slice a bs.length cap] w (DrLI w) := by
  have HO := Lib.hid (l6Open_any bs a cap w hn hcap h8 hl)
  clear h8 hl
  go_enter Try.func24, Try.ntmps24
  go_wp2_with fail
  refine HO.out.mono ?_
  rintro e w1 ⟨rfl, hb1, hr1⟩
  have HP := Lib.hid (pick_any w.heap.size a cap 0 4 (bs.take 2000) w1 hr1 (by omega) (by omega) (by omega))
  have HB1 := Lib.hid hb1
  have hRw1 := hr1.cells.2.2.2
  clear hb1 hr1
  go_wp2_with fail
  refine HP.out.mono ?_
  rintro e w2 ⟨⟨k, hk, rfl⟩, hg2, hs2, hr2⟩
  obtain ⟨m, hm⟩ : ∃ m, m = 1 + k := ⟨_, rfl⟩
  have hwm : IntKind.i64.wrap (1 + (k : Int)) = (m : Int) := by rw [IntKind.wrap_i64]; omega
  have hm1 : 1 ≤ m ∧ m ≤ 4 := by omega
  have HB2 := Lib.hid (below_over HB1.out hg2 (fun r e => by cases e; exact Nat.le_refl _))
  have HX := Lib.hid (l91Sum_any w.heap.size a cap (bs.take 2000) 1 m w2 (by omega) (by omega) (by omega) hr2)
  have hRw2 := hr2.cells.2.2.2
  clear hg2 hs2 hr2 hm
  go_wp2_with fail
  refine HX.out.mono ?_
  rintro e w3 ⟨hg3, ys, g, n, c, q, rfl, hny, hn60, hsm, htl, hge, hr3, hq⟩
  have HB3 := Lib.hid (below_over HB2.out hg3 (fun r e => by cases e; exact Nat.le_refl _))
  have HP3 := Lib.hid (pick_any w.heap.size a cap q 210 (bs.take 2000) w3 hr3 (by omega) (by omega) (by omega))
  have HTL := Lib.hid htl
  have HNY := Lib.hid hny
  clear hg3 hr3 htl hny
  go_wp2_with fail
  refine HP3.out.mono ?_
  rintro e w4 ⟨⟨x, hx, rfl⟩, hg4, hs4, hr4⟩
  obtain ⟨z, hz⟩ : ∃ z : Int, z = (x : Int) - 105 := ⟨_, rfl⟩
  have hwz : IntKind.i64.wrap ((x : Int) - 105) = z := by rw [IntKind.wrap_i64]; omega
  have hzb : -1000 ≤ z ∧ z ≤ 1000 := by omega
  have HB4 := Lib.hid (below_over HB3.out hg4 (fun r e => by cases e; exact Nat.le_refl _))
  have HT4 := Lib.hid (HTL.out.moved hg4 (by omega))
  clear hg4 hs4 hr4 hz
  go_wp2_with fail
  go_ret2
  exact ⟨HB4.out, ys, g, n, c, z, rfl, HNY.out, hn60, hsm, HT4.out, hzb.1, hzb.2⟩

/-- Two lists of terms are drawn. -/
def DrLL (w : World) (e : Ending) (w' : World) : Prop :=
  Below w.heap.size w w' ∧ ∃ (ys zs : List (Int × ByteArray)) (g n c g' n' c' : Nat), e = .returned (.tuple #[.slice (some ⟨g, 0, none⟩) n c, .slice (some ⟨g', 0, none⟩) n' c']) ∧ n = ys.length ∧ n ≤ 60 ∧ TmSmall ys ∧ TermL w' g ys ∧ n' = zs.length ∧ n' ≤ 60 ∧ TmSmall zs ∧ TermL w' g' zs

set_option maxRecDepth 100000 in
set_option maxHeartbeats 1000000 in
theorem dAdd_any (bs : List Nat) (a : Option Addr) (cap : Nat) (w : World) (hn : bs.length ≤ 9223372036854775807) (hcap : bs.length ≤ cap) (h8 : ∀ z ∈ bs, z ≤ 255) (hl : LiesB w a bs) :
    Calls Try.prog 21 #[.slice a bs.length cap] w (DrLL w) := by
  have HO := Lib.hid (l6Open_any bs a cap w hn hcap h8 hl)
  clear h8 hl
  go_enter Try.func21, Try.ntmps21
  go_wp2_with fail
  refine HO.out.mono ?_
  rintro e w1 ⟨rfl, hb1, hr1⟩
  have HP := Lib.hid (pick_any w.heap.size a cap 0 4 (bs.take 2000) w1 hr1 (by omega) (by omega) (by omega))
  have HB1 := Lib.hid hb1
  have hRw1 := hr1.cells.2.2.2
  clear hb1 hr1
  go_wp2_with fail
  refine HP.out.mono ?_
  rintro e w2 ⟨⟨k, hk, rfl⟩, hg2, hs2, hr2⟩
  obtain ⟨m, hm⟩ : ∃ m, m = 1 + k := ⟨_, rfl⟩
  have hwm : IntKind.i64.wrap (1 + (k : Int)) = (m : Int) := by rw [IntKind.wrap_i64]; omega
  have hm1 : 1 ≤ m ∧ m ≤ 4 := by omega
  have HB2 := Lib.hid (below_over HB1.out hg2 (fun r e => by cases e; exact Nat.le_refl _))
  have HX := Lib.hid (l91Sum_any w.heap.size a cap (bs.take 2000) 1 m w2 (by omega) (by omega) (by omega) hr2)
  have hRw2 := hr2.cells.2.2.2
  clear hg2 hs2 hr2 hm
  go_wp2_with fail
  refine HX.out.mono ?_
  rintro e w3 ⟨hg3, ys, g, n, c, q, rfl, hny, hn60, hsm, htl, hge, hr3, hq⟩
  have HB3 := Lib.hid (below_over HB2.out hg3 (fun r e => by cases e; exact Nat.le_refl _))
  have HP3 := Lib.hid (pick_any w.heap.size a cap q 12 (bs.take 2000) w3 hr3 (by omega) (by omega) (by omega))
  have HTL := Lib.hid htl
  have HNY := Lib.hid hny
  have hRw3 := hr3.cells.2.2.2
  clear hg3 hr3 htl hny
  go_wp2_with fail
  refine HP3.out.mono ?_
  rintro e w4 ⟨⟨x, hx, rfl⟩, hg4, hs4, hr4⟩
  obtain ⟨y, hy⟩ : ∃ y : Nat, y = x / 11 := ⟨_, rfl⟩
  have hy1 : (x : Int).tdiv 11 = (y : Int) := by rw [Int.tdiv_eq_ediv_of_nonneg (by omega)]; omega
  have hy2 : (x : Int) / 11 = (y : Int) := by omega
  have hyb : y ≤ 1 := by omega
  obtain ⟨m2, hm2⟩ : ∃ m2, m2 = m + y := ⟨_, rfl⟩
  have hwm2 : IntKind.i64.wrap ((m : Int) + (y : Int)) = (m2 : Int) := by rw [IntKind.wrap_i64]; omega
  have hwy : IntKind.i64.wrap (y : Int) = (y : Int) := by rw [IntKind.wrap_i64]; omega
  have hmb : 1 ≤ m2 ∧ m2 ≤ 5 := by omega
  have HB4 := Lib.hid (below_over HB3.out hg4 (fun r e => by cases e; exact Nat.le_refl _))
  have HT4 := Lib.hid (HTL.out.moved hg4 (by omega))
  have HX4 := Lib.hid (l91Sum_any w.heap.size a cap (bs.take 2000) (q + 1) m2 w4 (by omega) (by omega) (by omega) hr4)
  clear hg4 hs4 hr4 hy hm2
  go_wp2_with fail
  refine HX4.out.mono ?_
  rintro e w5 ⟨hg5, zs, g', n', c', q', rfl, hny', hn60', hsm', htl', hge', hr5, hq'⟩
  have HB5 := Lib.hid (below_over HB4.out hg5 (fun r e => by cases e; exact Nat.le_refl _))
  have HT5 := Lib.hid (HT4.out.moved hg5 (by omega))
  have HNY' := Lib.hid hny'
  clear hg5 hr5 hny'
  go_wp2_with fail
  go_ret2
  exact ⟨HB5.out, ys, zs, g, n, c, g', n', c', rfl, HNY.out, hn60, hsm, HT5.out, HNY'.out, hn60', hsm', htl'⟩
end Go.Proofs.Ytipodlckehodnaa
end
section
/- The promises on sums: FnSum, FnSumMirror, FnScale, FnAdd. -/
namespace Go.Proofs.Ytipodlckehodnaa
open Go.RowKit

theorem Ans.is {v v' : Value} {w w' : World} {e : Ending} (h : Ans v w e w') (hv : v = v') : Ans v' w e w' := by rw [← hv]; exact h
theorem TermsPost.gotO {o : Option (List Tm)} {qs : List Tm} {zs : List (Int × ByteArray)} {N : Nat} {w w' : World} {e : Ending} (ho : o = some qs) (hN : N = qs.length) (hz : txtTm qs = zs) (h : TermsPost o w e w') : GotL zs N w e w' := by
  rw [ho] at h; exact h.gotL hN hz
theorem TermsPost.lostO {o : Option (List Tm)} {w w' : World} {e : Ending} (ho : o = none) (h : TermsPost o w e w') : LostL w e w' := by
  rw [ho] at h; exact h.lostL

theorem mirOf_sum {xs : List (Int × ByteArray)} {qs : List Tm} (h : mirOf xs = some qs) : ∃ ps, sumOf xs = some ps := by
  unfold mirOf at h; split at h
  · cases h
  · exact ⟨_, by assumption⟩
theorem sclOf_sum {xs : List (Int × ByteArray)} {m : Int} {qs : List Tm} (h : sclOf xs m = some qs) : ∃ ps, sumOf xs = some ps := by
  unfold sclOf at h; split at h
  · cases h
  · exact ⟨_, by assumption⟩
theorem addOf_sum {xs ys : List (Int × ByteArray)} {qs : List Tm} (h : addOf xs ys = some qs) : (∃ ps, sumOf xs = some ps) ∧ ∃ ps, sumOf ys = some ps := by
  unfold addOf at h; split at h
  · exact ⟨⟨_, by assumption⟩, ⟨_, by assumption⟩⟩
  · cases h
/-- The texts of a sum are short, and it is short. -/
theorem sum_size {xs : List (Int × ByteArray)} (h : ∃ ps, sumOf xs = some ps) : xs.length ≤ 60 ∧ ∀ j (h : j < xs.length), (xs[j]).2.size ≤ 1048576 := by
  obtain ⟨ps, hs⟩ := h
  have e := sum_txt hs
  obtain ⟨h1, h2, _⟩ := sum_trees hs
  have hl := (sumOf_ok hs).1
  refine ⟨by omega, fun j hj => ?_⟩
  have h3 := (txt_small (qs := ps) (fun p hp => ⟨(h2 p hp).2.1, (h2 p hp).2.2.1, (h2 p hp).2.2.2.1, (h2 p hp).2.2.2.2⟩) j (by rw [txtTm_length]; omega)).1
  have e2 : (txtTm ps)[j]'(by rw [txtTm_length]; omega) = xs[j] := by simp only [e]
  rw [e2] at h3
  omega

set_option maxRecDepth 100000 in
set_option maxHeartbeats 2000000 in
theorem pSum_any (bs : List Nat) (a : Option Addr) (cap : Nat) (w : World) (hl : LiesB w a bs) (h8 : ∀ z ∈ bs, z ≤ 255) (hn : bs.length ≤ 9223372036854775807) (hcap : bs.length ≤ cap) :
    Calls Try.prog 3 #[.slice a bs.length cap] w (Ans (.bool true) w) := by
  by_cases h : bs.length ≤ 1048576
  · have HD := Lib.hid (dSumV_any bs a cap w hn hcap h8 hl)
    clear h8 hl
    go_enter Try.func3, Try.ntmps3
    go_wp2_with fail
    refine HD.out.mono ?_
    rintro e w1 ⟨hB1, ys, g, n, c, rfl, hny, hn60, hsm, htl⟩
    have HB1 := Lib.hid hB1
    have A1_1 := Lib.hid (Below.refl w1.heap.size w1)
    have HL := Lib.hid htl
    have HNY := Lib.hid hny
    have HSZ := Lib.hid hsm.size
    clear hB1 htl hny hsm
    cases hs : sumOf ys with
    | none =>
      have HS := Lib.hid (show Value.bool (sumOf ys).isSome = .bool false by rw [hs]; rfl)
      clear hs
      go_wp2_with fail
      refine ((iSumValid_any ys n HNY.out g c w1 (by omega) HSZ.out (HL.out.below A1_1.out)).mono fun _ _ h => Ans.is h HS.out).mono ?_
      rintro e w2 ⟨rfl, hB⟩
      have A1_2 := Lib.hid (below_step A1_1.out hB)
      have HB2 := Lib.hid (below_step HB1.out hB)
      clear hB
      go_wp2_with fail
      refine ((sSumValid_any ys n HNY.out g c w2 (by omega) HSZ.out (HL.out.below A1_2.out)).mono fun _ _ h => Ans.is h HS.out).mono ?_
      rintro e w3 ⟨rfl, hB⟩
      have A1_3 := Lib.hid (below_step A1_2.out hB)
      have HB3 := Lib.hid (below_step HB2.out hB)
      clear hB
      go_wp2_with fail
      go_ret
      exact ⟨rfl, HB3.out⟩
    | some ps =>
      obtain ⟨e1, e2, e3⟩ := fnSum_told hs
      have HS := Lib.hid (show Value.bool (sumOf ys).isSome = .bool true by rw [hs]; rfl)
      have HE1 := Lib.hid e1
      have HE2 := Lib.hid e2
      have HZ := Lib.hid e3
      have HN : Hid (n = ps.length) := Lib.hid (by have h5 := congrArg List.length e3; rw [txtTm_length] at h5; have := HNY.out; omega)
      clear hs e1 e2 e3
      go_wp2_with fail
      refine ((iSumValid_any ys n HNY.out g c w1 (by omega) HSZ.out (HL.out.below A1_1.out)).mono fun _ _ h => Ans.is h HS.out).mono ?_
      rintro e w2 ⟨rfl, hB⟩
      have A1_2 := Lib.hid (below_step A1_1.out hB)
      have HB2 := Lib.hid (below_step HB1.out hB)
      clear hB
      go_wp2_with fail
      refine ((sSumValid_any ys n HNY.out g c w2 (by omega) HSZ.out (HL.out.below A1_2.out)).mono fun _ _ h => Ans.is h HS.out).mono ?_
      rintro e w3 ⟨rfl, hB⟩
      have A1_3 := Lib.hid (below_step A1_2.out hB)
      have HB3 := Lib.hid (below_step HB2.out hB)
      clear hB
      go_wp2_with fail
      refine ((iSumOf_any ys n HNY.out g c w3 (by omega) HSZ.out (HL.out.below A1_3.out)).mono fun _ _ h => TermsPost.gotO HE1.out HN.out HZ.out h).mono ?_
      rintro e w4 ⟨hB, gx, cx, rfl, hx⟩
      have A1_4 := Lib.hid (below_step A1_3.out hB)
      have HB4 := Lib.hid (below_step HB3.out hB)
      have HX := Lib.hid hx
      clear hx
      clear hB
      have A4_4 := Lib.hid (Below.refl w4.heap.size w4)
      go_wp2_with fail
      refine ((iSumAdd_post ys [] n 0 HNY.out rfl g c w4.heap.size 0 (w4.alloc (.cells #[] 32 (0, 0))) (by omega) (by omega) HSZ.out (fun j h => by simp at h) ((HL.out.below A1_4.out).below ((Below.refl _ _).alloc (Nat.le_refl _) _)) (fun j h => by simp at h)).mono fun _ _ h => TermsPost.gotO HE2.out HN.out HZ.out h).mono ?_
      rintro e w5 ⟨hB, gy, cy, rfl, hy⟩
      have HAL4 : Hid (Below w4.heap.size w4 (w4.alloc (.cells #[] 32 (0, 0)))) := Lib.hid ((Below.refl _ _).alloc (Nat.le_refl _) _)
      have hB := below_step HAL4.out hB
      have A1_5 := Lib.hid (below_step A1_4.out hB)
      have A4_5 := Lib.hid (below_step A4_4.out hB)
      have HB5 := Lib.hid (below_step HB4.out hB)
      have HY := Lib.hid hy
      clear hy
      clear hB
      have A5_5 := Lib.hid (Below.refl w5.heap.size w5)
      go_wp2_with fail
      refine (sameSum_any ys n HNY.out (some ⟨gx, 0, none⟩) (some ⟨g, 0, none⟩) cx c w5 (by omega) (TermL.o (HX.out.below A4_5.out)) (TermL.o (HL.out.below A1_5.out))).mono ?_
      rintro e w6 ⟨rfl, hB⟩
      have A1_6 := Lib.hid (below_step A1_5.out hB)
      have A4_6 := Lib.hid (below_step A4_5.out hB)
      have A5_6 := Lib.hid (below_step A5_5.out hB)
      have HB6 := Lib.hid (below_step HB5.out hB)
      clear hB
      go_wp2_with fail
      refine (sameSum_any ys n HNY.out (some ⟨gy, 0, none⟩) (some ⟨g, 0, none⟩) cy c w6 (by omega) (TermL.o (HY.out.below A5_6.out)) (TermL.o (HL.out.below A1_6.out))).mono ?_
      rintro e w7 ⟨rfl, hB⟩
      have A1_7 := Lib.hid (below_step A1_6.out hB)
      have A4_7 := Lib.hid (below_step A4_6.out hB)
      have A5_7 := Lib.hid (below_step A5_6.out hB)
      have HB7 := Lib.hid (below_step HB6.out hB)
      clear hB
      go_wp2_with fail
      go_ret
      exact ⟨rfl, HB7.out⟩
  · clear hl h8
    go_enter Try.func3, Try.ntmps3
    go_wp2_with fail
    go_ret
    exact ⟨rfl, Below.refl _ _⟩

set_option maxRecDepth 100000 in
set_option maxHeartbeats 2000000 in
theorem pSumMirror_any (bs : List Nat) (a : Option Addr) (cap : Nat) (w : World) (hl : LiesB w a bs) (h8 : ∀ z ∈ bs, z ≤ 255) (hn : bs.length ≤ 9223372036854775807) (hcap : bs.length ≤ cap) :
    Calls Try.prog 9 #[.slice a bs.length cap] w (Ans (.bool true) w) := by
  by_cases h : bs.length ≤ 1048576
  · have HD := Lib.hid (dSumMirror_any bs a cap w hn hcap h8 hl)
    clear h8 hl
    go_enter Try.func9, Try.ntmps9
    go_wp2_with fail
    refine HD.out.mono ?_
    rintro e w1 ⟨hB1, ys, g, n, c, rfl, hny, hn60, hsm, htl⟩
    have HB1 := Lib.hid hB1
    have A1_1 := Lib.hid (Below.refl w1.heap.size w1)
    have HL := Lib.hid htl
    have HNY := Lib.hid hny
    have HSZ := Lib.hid hsm.size
    clear hB1 htl hny hsm
    cases hs : mirOf ys with
    | none =>
      have HE := Lib.hid hs
      clear hs
      go_wp2_with fail
      refine ((iSumMirror_any ys n HNY.out g c w1 (by omega) HSZ.out (HL.out.below A1_1.out)).mono fun _ _ h => TermsPost.lostO HE.out h).mono ?_
      rintro e w2 ⟨hB, ax, cx, rfl⟩
      have A1_2 := Lib.hid (below_step A1_1.out hB)
      have HB2 := Lib.hid (below_step HB1.out hB)
      clear hB
      go_wp2_with fail
      refine ((sSumMirror_any ys n HNY.out g c w2 (by omega) HSZ.out (HL.out.below A1_2.out)).mono fun _ _ h => TermsPost.lostO HE.out h).mono ?_
      rintro e w3 ⟨hB, ay, cy, rfl⟩
      have A1_3 := Lib.hid (below_step A1_2.out hB)
      have HB3 := Lib.hid (below_step HB2.out hB)
      clear hB
      go_wp2_with fail
      refine (sameSum_any [] 0 rfl ax ay cx cy w3 (by omega) TermO.none TermO.none).mono ?_
      rintro e w4 ⟨rfl, hB⟩
      have A1_4 := Lib.hid (below_step A1_3.out hB)
      have HB4 := Lib.hid (below_step HB3.out hB)
      clear hB
      go_wp2_with fail
      refine (sameSum_any [] 0 rfl ax ay cx cy w4 (by omega) TermO.none TermO.none).mono ?_
      rintro e w5 ⟨rfl, hB⟩
      have A1_5 := Lib.hid (below_step A1_4.out hB)
      have HB5 := Lib.hid (below_step HB4.out hB)
      clear hB
      go_wp2_with fail
      go_ret
      exact ⟨rfl, HB5.out⟩
    | some qs =>
      obtain ⟨ps, e1, e2, e3, e4⟩ := fnMirror_told hs
      have HE := Lib.hid hs
      have HE2 := Lib.hid e2
      have HZ := Lib.hid e3
      have HNQ : Hid (n = qs.length) := Lib.hid (by have := HNY.out; omega)
      have HNT : Hid (n = (txtTm qs).length) := Lib.hid (by rw [txtTm_length]; have := HNY.out; omega)
      have HN : Hid (n = ps.length) := Lib.hid (by have h5 := congrArg List.length e3; rw [txtTm_length] at h5; have := HNY.out; omega)
      have HSQ := Lib.hid (sum_size (mirOf_sum e2)).2
      clear hs e1 e2 e3 e4
      go_wp2_with fail
      refine ((iSumMirror_any ys n HNY.out g c w1 (by omega) HSZ.out (HL.out.below A1_1.out)).mono fun _ _ h => TermsPost.gotO HE.out HNQ.out rfl h).mono ?_
      rintro e w2 ⟨hB, gx, cx, rfl, hx⟩
      have A1_2 := Lib.hid (below_step A1_1.out hB)
      have HB2 := Lib.hid (below_step HB1.out hB)
      have HX := Lib.hid hx
      clear hx
      clear hB
      have A2_2 := Lib.hid (Below.refl w2.heap.size w2)
      go_wp2_with fail
      refine ((sSumMirror_any ys n HNY.out g c w2 (by omega) HSZ.out (HL.out.below A1_2.out)).mono fun _ _ h => TermsPost.gotO HE.out HNQ.out rfl h).mono ?_
      rintro e w3 ⟨hB, gy, cy, rfl, hy⟩
      have A1_3 := Lib.hid (below_step A1_2.out hB)
      have A2_3 := Lib.hid (below_step A2_2.out hB)
      have HB3 := Lib.hid (below_step HB2.out hB)
      have HY := Lib.hid hy
      clear hy
      clear hB
      have A3_3 := Lib.hid (Below.refl w3.heap.size w3)
      go_wp2_with fail
      refine (sameSum_any (txtTm qs) n HNT.out (some ⟨gx, 0, none⟩) (some ⟨gy, 0, none⟩) cx cy w3 (by omega) (TermL.o (HX.out.below A2_3.out)) (TermL.o (HY.out.below A3_3.out))).mono ?_
      rintro e w4 ⟨rfl, hB⟩
      have A1_4 := Lib.hid (below_step A1_3.out hB)
      have A2_4 := Lib.hid (below_step A2_3.out hB)
      have A3_4 := Lib.hid (below_step A3_3.out hB)
      have HB4 := Lib.hid (below_step HB3.out hB)
      clear hB
      go_wp2_with fail
      refine ((iSumMirror_any (txtTm qs) n HNT.out gx cx w4 (by omega) HSQ.out (HX.out.below A2_4.out)).mono fun _ _ h => TermsPost.gotO HE2.out HN.out HZ.out h).mono ?_
      rintro e w5 ⟨hB, gz, cz, rfl, hz⟩
      have A1_5 := Lib.hid (below_step A1_4.out hB)
      have A2_5 := Lib.hid (below_step A2_4.out hB)
      have A3_5 := Lib.hid (below_step A3_4.out hB)
      have HB5 := Lib.hid (below_step HB4.out hB)
      have HZZ := Lib.hid hz
      clear hz
      clear hB
      have A5_5 := Lib.hid (Below.refl w5.heap.size w5)
      go_wp2_with fail
      refine (sameSum_any ys n HNY.out (some ⟨gz, 0, none⟩) (some ⟨g, 0, none⟩) cz c w5 (by omega) (TermL.o (HZZ.out.below A5_5.out)) (TermL.o (HL.out.below A1_5.out))).mono ?_
      rintro e w6 ⟨rfl, hB⟩
      have A1_6 := Lib.hid (below_step A1_5.out hB)
      have A2_6 := Lib.hid (below_step A2_5.out hB)
      have A3_6 := Lib.hid (below_step A3_5.out hB)
      have A5_6 := Lib.hid (below_step A5_5.out hB)
      have HB6 := Lib.hid (below_step HB5.out hB)
      clear hB
      go_wp2_with fail
      go_ret
      exact ⟨rfl, HB6.out⟩
  · clear hl h8
    go_enter Try.func9, Try.ntmps9
    go_wp2_with fail
    go_ret
    exact ⟨rfl, Below.refl _ _⟩

set_option maxRecDepth 100000 in
set_option maxHeartbeats 2000000 in
theorem pScale_any (bs : List Nat) (a : Option Addr) (cap : Nat) (w : World) (hl : LiesB w a bs) (h8 : ∀ z ∈ bs, z ≤ 255) (hn : bs.length ≤ 9223372036854775807) (hcap : bs.length ≤ cap) :
    Calls Try.prog 6 #[.slice a bs.length cap] w (Ans (.bool true) w) := by
  by_cases h : bs.length ≤ 1048576
  · have HD := Lib.hid (dScale_any bs a cap w hn hcap h8 hl)
    clear h8 hl
    go_enter Try.func6, Try.ntmps6
    go_wp2_with fail
    refine HD.out.mono ?_
    rintro e w1 ⟨hB1, ys, g, n, c, z, rfl, hny, hn60, hsm, htl, hz1, hz2⟩
    have HB1 := Lib.hid hB1
    have A1_1 := Lib.hid (Below.refl w1.heap.size w1)
    have HL := Lib.hid htl
    have HNY := Lib.hid hny
    have HSZ := Lib.hid hsm.size
    clear hB1 htl hny hsm
    cases hs : sclOf ys z with
    | none =>
      have HE := Lib.hid hs
      clear hs
      go_wp2_with fail
      refine ((iSumScale_any ys n HNY.out g c z w1 (by omega) HSZ.out (HL.out.below A1_1.out)).mono fun _ _ h => TermsPost.lostO HE.out h).mono ?_
      rintro e w2 ⟨hB, ax, cx, rfl⟩
      have A1_2 := Lib.hid (below_step A1_1.out hB)
      have HB2 := Lib.hid (below_step HB1.out hB)
      clear hB
      go_wp2_with fail
      refine ((sSumScale_any ys n HNY.out g c z w2 (by omega) HSZ.out (HL.out.below A1_2.out)).mono fun _ _ h => TermsPost.lostO HE.out h).mono ?_
      rintro e w3 ⟨hB, ay, cy, rfl⟩
      have A1_3 := Lib.hid (below_step A1_2.out hB)
      have HB3 := Lib.hid (below_step HB2.out hB)
      clear hB
      go_wp2_with fail
      refine (sameSum_any [] 0 rfl ax ay cx cy w3 (by omega) TermO.none TermO.none).mono ?_
      rintro e w4 ⟨rfl, hB⟩
      have A1_4 := Lib.hid (below_step A1_3.out hB)
      have HB4 := Lib.hid (below_step HB3.out hB)
      clear hB
      go_wp2_with fail
      refine (sameSum_any [] 0 rfl ax ay cx cy w4 (by omega) TermO.none TermO.none).mono ?_
      rintro e w5 ⟨rfl, hB⟩
      have A1_5 := Lib.hid (below_step A1_4.out hB)
      have HB5 := Lib.hid (below_step HB4.out hB)
      clear hB
      go_wp2_with fail
      go_ret
      exact ⟨rfl, HB5.out⟩
    | some qs =>
      obtain ⟨rs, e1, e2⟩ := fnScale_told hs
      obtain ⟨z1, hz1⟩ : ∃ z1 : Int, z1 = z + 1 := ⟨_, rfl⟩
      have hwz : IntKind.i64.wrap (z + 1) = z1 := by rw [IntKind.wrap_i64]; omega
      rw [← hz1] at e2
      have HE := Lib.hid hs
      have HE1 := Lib.hid e1
      have HE2 := Lib.hid e2
      obtain ⟨N, hN⟩ : ∃ N, N = qs.length := ⟨_, rfl⟩
      obtain ⟨M, hM⟩ : ∃ M, M = rs.length := ⟨_, rfl⟩
      have HNQ := Lib.hid hN
      have HNM := Lib.hid hM
      have HNT : Hid (N = (txtTm qs).length) := Lib.hid (by rw [txtTm_length]; exact hN)
      have HNR : Hid (M = (txtTm rs).length) := Lib.hid (by rw [txtTm_length]; exact hM)
      have HSQ := Lib.hid (sum_size (addOf_sum e1).1).2
      have hN60 : N ≤ 60 := by rw [hN]; exact sclOf_len hs.symm
      have hM60 : M ≤ 60 := by rw [hM]; exact addOf_len e1.symm
      clear hs e1 e2 hN hM hz1
      go_wp2_with fail
      refine ((iSumScale_any ys n HNY.out g c z w1 (by omega) HSZ.out (HL.out.below A1_1.out)).mono fun _ _ h => TermsPost.gotO HE.out HNQ.out rfl h).mono ?_
      rintro e w2 ⟨hB, gx, cx, rfl, hx⟩
      have A1_2 := Lib.hid (below_step A1_1.out hB)
      have HB2 := Lib.hid (below_step HB1.out hB)
      have HX := Lib.hid hx
      clear hx
      clear hB
      have A2_2 := Lib.hid (Below.refl w2.heap.size w2)
      go_wp2_with fail
      refine ((sSumScale_any ys n HNY.out g c z w2 (by omega) HSZ.out (HL.out.below A1_2.out)).mono fun _ _ h => TermsPost.gotO HE.out HNQ.out rfl h).mono ?_
      rintro e w3 ⟨hB, gy, cy, rfl, hy⟩
      have A1_3 := Lib.hid (below_step A1_2.out hB)
      have A2_3 := Lib.hid (below_step A2_2.out hB)
      have HB3 := Lib.hid (below_step HB2.out hB)
      have HY := Lib.hid hy
      clear hy
      clear hB
      have A3_3 := Lib.hid (Below.refl w3.heap.size w3)
      go_wp2_with fail
      refine (sameSum_any (txtTm qs) N HNT.out (some ⟨gx, 0, none⟩) (some ⟨gy, 0, none⟩) cx cy w3 (by omega) (TermL.o (HX.out.below A2_3.out)) (TermL.o (HY.out.below A3_3.out))).mono ?_
      rintro e w4 ⟨rfl, hB⟩
      have A1_4 := Lib.hid (below_step A1_3.out hB)
      have A2_4 := Lib.hid (below_step A2_3.out hB)
      have A3_4 := Lib.hid (below_step A3_3.out hB)
      have HB4 := Lib.hid (below_step HB3.out hB)
      clear hB
      cases hu : sclOf ys z1 with
      | none =>
        have HU := Lib.hid hu
        clear hu
        go_wp2_with fail
        refine ((iSumScale_any ys n HNY.out g c z1 w4 (by omega) HSZ.out (HL.out.below A1_4.out)).mono fun _ _ h => TermsPost.lostO HU.out h).mono ?_
        rintro e w5 ⟨hB, au, cu, rfl⟩
        have A1_5 := Lib.hid (below_step A1_4.out hB)
        have A2_5 := Lib.hid (below_step A2_4.out hB)
        have A3_5 := Lib.hid (below_step A3_4.out hB)
        have HB5 := Lib.hid (below_step HB4.out hB)
        clear hB
        go_wp2_with fail
        refine ((iSumAdd_post (txtTm qs) ys N n HNT.out HNY.out gx cx g c w5 (by omega) (by omega) HSQ.out HSZ.out (HX.out.below A2_5.out) (HL.out.below A1_5.out)).mono fun _ _ h => TermsPost.gotO HE1.out HNM.out rfl h).mono ?_
        rintro e w6 ⟨hB, gv, cv, rfl, hv⟩
        have A1_6 := Lib.hid (below_step A1_5.out hB)
        have A2_6 := Lib.hid (below_step A2_5.out hB)
        have A3_6 := Lib.hid (below_step A3_5.out hB)
        have HB6 := Lib.hid (below_step HB5.out hB)
        clear hv
        clear hB
        go_wp2_with fail
        go_ret
        exact ⟨rfl, HB6.out⟩
      | some us =>
        have hur := HE2.out us hu
        subst hur
        have HU := Lib.hid hu
        clear hu
        go_wp2_with fail
        refine ((iSumScale_any ys n HNY.out g c z1 w4 (by omega) HSZ.out (HL.out.below A1_4.out)).mono fun _ _ h => TermsPost.gotO HU.out HNM.out rfl h).mono ?_
        rintro e w5 ⟨hB, gu, cu, rfl, hu⟩
        have A1_5 := Lib.hid (below_step A1_4.out hB)
        have A2_5 := Lib.hid (below_step A2_4.out hB)
        have A3_5 := Lib.hid (below_step A3_4.out hB)
        have HB5 := Lib.hid (below_step HB4.out hB)
        have HUU := Lib.hid hu
        clear hu
        clear hB
        have A5_5 := Lib.hid (Below.refl w5.heap.size w5)
        go_wp2_with fail
        refine ((iSumAdd_post (txtTm qs) ys N n HNT.out HNY.out gx cx g c w5 (by omega) (by omega) HSQ.out HSZ.out (HX.out.below A2_5.out) (HL.out.below A1_5.out)).mono fun _ _ h => TermsPost.gotO HE1.out HNM.out rfl h).mono ?_
        rintro e w6 ⟨hB, gv, cv, rfl, hv⟩
        have A1_6 := Lib.hid (below_step A1_5.out hB)
        have A2_6 := Lib.hid (below_step A2_5.out hB)
        have A3_6 := Lib.hid (below_step A3_5.out hB)
        have A5_6 := Lib.hid (below_step A5_5.out hB)
        have HB6 := Lib.hid (below_step HB5.out hB)
        have HV := Lib.hid hv
        clear hv
        clear hB
        have A6_6 := Lib.hid (Below.refl w6.heap.size w6)
        go_wp2_with fail
        refine (sameSum_any (txtTm us) M HNR.out (some ⟨gu, 0, none⟩) (some ⟨gv, 0, none⟩) cu cv w6 (by omega) (TermL.o (HUU.out.below A5_6.out)) (TermL.o (HV.out.below A6_6.out))).mono ?_
        rintro e w7 ⟨rfl, hB⟩
        have A1_7 := Lib.hid (below_step A1_6.out hB)
        have A2_7 := Lib.hid (below_step A2_6.out hB)
        have A3_7 := Lib.hid (below_step A3_6.out hB)
        have A5_7 := Lib.hid (below_step A5_6.out hB)
        have A6_7 := Lib.hid (below_step A6_6.out hB)
        have HB7 := Lib.hid (below_step HB6.out hB)
        clear hB
        go_wp2_with fail
        go_ret
        exact ⟨rfl, HB7.out⟩
  · clear hl h8
    go_enter Try.func6, Try.ntmps6
    go_wp2_with fail
    go_ret
    exact ⟨rfl, Below.refl _ _⟩

set_option maxRecDepth 100000 in
set_option maxHeartbeats 2000000 in
theorem pAdd_any (bs : List Nat) (a : Option Addr) (cap : Nat) (w : World) (hl : LiesB w a bs) (h8 : ∀ z ∈ bs, z ≤ 255) (hn : bs.length ≤ 9223372036854775807) (hcap : bs.length ≤ cap) :
    Calls Try.prog 5 #[.slice a bs.length cap] w (Ans (.bool true) w) := by
  by_cases h : bs.length ≤ 1048576
  · have HD := Lib.hid (dAdd_any bs a cap w hn hcap h8 hl)
    clear h8 hl
    go_enter Try.func5, Try.ntmps5
    go_wp2_with fail
    refine HD.out.mono ?_
    rintro e w1 ⟨hB1, ys, zs, g, n, c, g', n', c', rfl, hny, hn60, hsm, htl, hny', hn60', hsm', htl'⟩
    have HB1 := Lib.hid hB1
    have A1_1 := Lib.hid (Below.refl w1.heap.size w1)
    have HL := Lib.hid htl
    have HNY := Lib.hid hny
    have HSZ := Lib.hid hsm.size
    have HL' := Lib.hid htl'
    have HNY' := Lib.hid hny'
    have HSZ' := Lib.hid hsm'.size
    clear hB1 htl hny hsm htl' hny' hsm'
    cases hs : addOf ys zs with
    | none =>
      have HE := Lib.hid hs
      clear hs
      go_wp2_with fail
      refine ((iSumAdd_post ys zs n n' HNY.out HNY'.out g c g' c' w1 (by omega) (by omega) HSZ.out HSZ'.out (HL.out.below A1_1.out) (HL'.out.below A1_1.out)).mono fun _ _ h => TermsPost.lostO HE.out h).mono ?_
      rintro e w2 ⟨hB, ax, cx, rfl⟩
      have A1_2 := Lib.hid (below_step A1_1.out hB)
      have HB2 := Lib.hid (below_step HB1.out hB)
      clear hB
      go_wp2_with fail
      refine ((sSumAdd_any ys zs n n' HNY.out HNY'.out g c g' c' w2 (by omega) (by omega) HSZ.out HSZ'.out (HL.out.below A1_2.out) (HL'.out.below A1_2.out)).mono fun _ _ h => TermsPost.lostO HE.out h).mono ?_
      rintro e w3 ⟨hB, ay, cy, rfl⟩
      have A1_3 := Lib.hid (below_step A1_2.out hB)
      have HB3 := Lib.hid (below_step HB2.out hB)
      clear hB
      go_wp2_with fail
      refine (sameSum_any [] 0 rfl ax ay cx cy w3 (by omega) TermO.none TermO.none).mono ?_
      rintro e w4 ⟨rfl, hB⟩
      have A1_4 := Lib.hid (below_step A1_3.out hB)
      have HB4 := Lib.hid (below_step HB3.out hB)
      clear hB
      go_wp2_with fail
      refine (sameSum_any [] 0 rfl ax ay cx cy w4 (by omega) TermO.none TermO.none).mono ?_
      rintro e w5 ⟨rfl, hB⟩
      have A1_5 := Lib.hid (below_step A1_4.out hB)
      have HB5 := Lib.hid (below_step HB4.out hB)
      clear hB
      go_wp2_with fail
      go_ret
      exact ⟨rfl, HB5.out⟩
    | some qs =>
      obtain ⟨e1, ms, ps, e2, e3, e4, e5⟩ := fnAdd_told hs
      obtain ⟨N, hN⟩ : ∃ N, N = qs.length := ⟨_, rfl⟩
      obtain ⟨M, hM⟩ : ∃ M, M = ms.length := ⟨_, rfl⟩
      have HE := Lib.hid hs
      have HE1 := Lib.hid e1
      have HE2 := Lib.hid e2
      have HE4 := Lib.hid e4
      have HZ := Lib.hid e5
      have HNQ := Lib.hid hN
      have HNM := Lib.hid hM
      have HNT : Hid (N = (txtTm qs).length) := Lib.hid (by rw [txtTm_length]; exact hN)
      have HNR : Hid (M = (txtTm ms).length) := Lib.hid (by rw [txtTm_length]; exact hM)
      have HN : Hid (n = ps.length) := Lib.hid (by have h5 := congrArg List.length e5; rw [txtTm_length] at h5; have := HNY.out; omega)
      have HSQ := Lib.hid (sum_size (addOf_sum e4).1).2
      have HSM := Lib.hid (sum_size (addOf_sum e4).2).2
      have hN60 : N ≤ 60 := by rw [hN]; exact addOf_len hs.symm
      have hM60 : M ≤ 60 := by rw [hM]; exact sclOf_len e2.symm
      clear hs e1 e2 e3 e4 e5 hN hM
      go_wp2_with fail
      refine ((iSumAdd_post ys zs n n' HNY.out HNY'.out g c g' c' w1 (by omega) (by omega) HSZ.out HSZ'.out (HL.out.below A1_1.out) (HL'.out.below A1_1.out)).mono fun _ _ h => TermsPost.gotO HE.out HNQ.out rfl h).mono ?_
      rintro e w2 ⟨hB, gx, cx, rfl, hx⟩
      have A1_2 := Lib.hid (below_step A1_1.out hB)
      have HB2 := Lib.hid (below_step HB1.out hB)
      have HX := Lib.hid hx
      clear hx
      clear hB
      have A2_2 := Lib.hid (Below.refl w2.heap.size w2)
      go_wp2_with fail
      refine ((sSumAdd_any ys zs n n' HNY.out HNY'.out g c g' c' w2 (by omega) (by omega) HSZ.out HSZ'.out (HL.out.below A1_2.out) (HL'.out.below A1_2.out)).mono fun _ _ h => TermsPost.gotO HE.out HNQ.out rfl h).mono ?_
      rintro e w3 ⟨hB, gy, cy, rfl, hy⟩
      have A1_3 := Lib.hid (below_step A1_2.out hB)
      have A2_3 := Lib.hid (below_step A2_2.out hB)
      have HB3 := Lib.hid (below_step HB2.out hB)
      have HY := Lib.hid hy
      clear hy
      clear hB
      have A3_3 := Lib.hid (Below.refl w3.heap.size w3)
      go_wp2_with fail
      refine (sameSum_any (txtTm qs) N HNT.out (some ⟨gx, 0, none⟩) (some ⟨gy, 0, none⟩) cx cy w3 (by omega) (TermL.o (HX.out.below A2_3.out)) (TermL.o (HY.out.below A3_3.out))).mono ?_
      rintro e w4 ⟨rfl, hB⟩
      have A1_4 := Lib.hid (below_step A1_3.out hB)
      have A2_4 := Lib.hid (below_step A2_3.out hB)
      have A3_4 := Lib.hid (below_step A3_3.out hB)
      have HB4 := Lib.hid (below_step HB3.out hB)
      clear hB
      go_wp2_with fail
      refine ((iSumAdd_post zs ys n' n HNY'.out HNY.out g' c' g c w4 (by omega) (by omega) HSZ'.out HSZ.out (HL'.out.below A1_4.out) (HL.out.below A1_4.out)).mono fun _ _ h => TermsPost.gotO HE1.out HNQ.out rfl h).mono ?_
      rintro e w5 ⟨hB, gu, cu, rfl, hu⟩
      have A1_5 := Lib.hid (below_step A1_4.out hB)
      have A2_5 := Lib.hid (below_step A2_4.out hB)
      have A3_5 := Lib.hid (below_step A3_4.out hB)
      have HB5 := Lib.hid (below_step HB4.out hB)
      have HU := Lib.hid hu
      clear hu
      clear hB
      have A5_5 := Lib.hid (Below.refl w5.heap.size w5)
      go_wp2_with fail
      refine ((iSumScale_any zs n' HNY'.out g' c' (-1) w5 (by omega) HSZ'.out (HL'.out.below A1_5.out)).mono fun _ _ h => TermsPost.gotO HE2.out HNM.out rfl h).mono ?_
      rintro e w6 ⟨hB, gm, cm, rfl, hm⟩
      have A1_6 := Lib.hid (below_step A1_5.out hB)
      have A2_6 := Lib.hid (below_step A2_5.out hB)
      have A3_6 := Lib.hid (below_step A3_5.out hB)
      have A5_6 := Lib.hid (below_step A5_5.out hB)
      have HB6 := Lib.hid (below_step HB5.out hB)
      have HM := Lib.hid hm
      clear hm
      clear hB
      have A6_6 := Lib.hid (Below.refl w6.heap.size w6)
      go_wp2_with fail
      refine ((iSumAdd_post (txtTm qs) (txtTm ms) N M HNT.out HNR.out gx cx gm cm w6 (by omega) (by omega) HSQ.out HSM.out (HX.out.below A2_6.out) (HM.out.below A6_6.out)).mono fun _ _ h => TermsPost.gotO HE4.out HN.out HZ.out h).mono ?_
      rintro e w7 ⟨hB, gv, cv, rfl, hv⟩
      have A1_7 := Lib.hid (below_step A1_6.out hB)
      have A2_7 := Lib.hid (below_step A2_6.out hB)
      have A3_7 := Lib.hid (below_step A3_6.out hB)
      have A5_7 := Lib.hid (below_step A5_6.out hB)
      have A6_7 := Lib.hid (below_step A6_6.out hB)
      have HB7 := Lib.hid (below_step HB6.out hB)
      have HV := Lib.hid hv
      clear hv
      clear hB
      have A7_7 := Lib.hid (Below.refl w7.heap.size w7)
      go_wp2_with fail
      refine (sameSum_any (txtTm qs) N HNT.out (some ⟨gu, 0, none⟩) (some ⟨gx, 0, none⟩) cu cx w7 (by omega) (TermL.o (HU.out.below A5_7.out)) (TermL.o (HX.out.below A2_7.out))).mono ?_
      rintro e w8 ⟨rfl, hB⟩
      have A1_8 := Lib.hid (below_step A1_7.out hB)
      have A2_8 := Lib.hid (below_step A2_7.out hB)
      have A3_8 := Lib.hid (below_step A3_7.out hB)
      have A5_8 := Lib.hid (below_step A5_7.out hB)
      have A6_8 := Lib.hid (below_step A6_7.out hB)
      have A7_8 := Lib.hid (below_step A7_7.out hB)
      have HB8 := Lib.hid (below_step HB7.out hB)
      clear hB
      go_wp2_with fail
      refine (sameSum_any ys n HNY.out (some ⟨gv, 0, none⟩) (some ⟨g, 0, none⟩) cv c w8 (by omega) (TermL.o (HV.out.below A7_8.out)) (TermL.o (HL.out.below A1_8.out))).mono ?_
      rintro e w9 ⟨rfl, hB⟩
      have A1_9 := Lib.hid (below_step A1_8.out hB)
      have A2_9 := Lib.hid (below_step A2_8.out hB)
      have A3_9 := Lib.hid (below_step A3_8.out hB)
      have A5_9 := Lib.hid (below_step A5_8.out hB)
      have A6_9 := Lib.hid (below_step A6_8.out hB)
      have A7_9 := Lib.hid (below_step A7_8.out hB)
      have HB9 := Lib.hid (below_step HB8.out hB)
      clear hB
      go_wp2_with fail
      go_ret
      exact ⟨rfl, HB9.out⟩
  · clear hl h8
    go_enter Try.func5, Try.ntmps5
    go_wp2_with fail
    go_ret
    exact ⟨rfl, Below.refl _ _⟩

end Go.Proofs.Ytipodlckehodnaa
end
