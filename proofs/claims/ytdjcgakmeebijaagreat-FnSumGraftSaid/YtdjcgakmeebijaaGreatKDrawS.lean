/- Merged out of: XKDrawT, XDrShape. -/
import Derived.Test.YtdjcgakmeebijaaGreatKPick
import Derived.Test.YtdjcgakmeebijaaGreatKMirrorS
import Derived.Deep.CutRange
import Derived.Deep.CutBlock
import Derived.Deep.RegionHeld3
section
/- Merged out of: XDrawT, XDrawX. -/
section
/- A tree is drawn. -/
namespace Go.Proofs.YtdjcgakmeebijaaGreat
open Go.RowKit

/-- A drawn tree: new, small, and the reader moved on. -/
def TreeDr (R : Nat) (a : Option Addr) (cap : Nat) (bs : List Nat) (p d : Nat) (w : World) (e : Ending) (w' : World) : Prop :=
  w.grownBy w' (some R) ∧ ∃ (t : T) (lb : ByteArray) (sa : Option Addr) (sn sc q : Nat), e = .returned (.agg #[.string lb, .slice sa sn sc]) ∧ RepS w' (fun b => w.heap.size ≤ b) t (.string lb) (.slice sa sn sc) ∧
    t.wf ∧ t.leaves ≤ 3 ^ d ∧ t.nodes + 1 ≤ 3 ^ d ∧ RdR w' R a cap bs q ∧ q + 1 ≤ p + 3 ^ d

theorem grownBy_over {a b c : World} {row row' : Option Nat} (h : a.grownBy b row) (k : b.grownBy c row') (hr : ∀ r, row' = some r → a.heap.size ≤ r) : a.grownBy c row :=
  ⟨k.os.trans h.os, k.tape.trans h.tape, k.output.trans h.output, Nat.le_trans h.size k.size, fun i hi hn => (k.block i (Nat.lt_of_lt_of_le hi h.size) (fun e => by have := hr i e.symm; omega)).trans (h.block i hi hn)⟩

theorem leaf_dr {R : Nat} {a : Option Addr} {cap : Nat} {bs : List Nat} {p q d : Nat} {w w' : World} (hg : w.grownBy w' (some R)) (hr : RdR w' R a cap bs q) (hq : q + 1 ≤ p + 3 ^ d) :
    TreeDr R a cap bs p d w (.returned (.agg #[.string ⟨#[]⟩, .slice none 0 0])) w' := by
  have hp1 : 1 ≤ 3 ^ d := Nat.one_le_pow _ _ (by decide)
  exact ⟨hg, .leaf, ⟨#[]⟩, none, 0, 0, q, rfl, by rw [RepS]; exact ⟨rfl, rfl⟩, by simp [T.wf], by simp [T.leaves]; omega, by simp [T.nodes]; omega, hr, hq⟩

end Go.Proofs.YtdjcgakmeebijaaGreat
end
section
/- A text is drawn. -/
namespace Go.Proofs.YtdjcgakmeebijaaGreat
open Go.RowKit

/-- A drawn text: short, and the reader moved on. -/
def TextDr (R : Nat) (a : Option Addr) (cap : Nat) (bs : List Nat) (p d : Nat) (w : World) (e : Ending) (w' : World) : Prop :=
  w.grownBy w' (some R) ∧ ∃ (s : ByteArray) (q : Nat), e = .returned (.string s) ∧ s.size ≤ 2000 ∧ RdR w' R a cap bs q ∧ q ≤ p + 1 + 3 ^ d

def badTexts : List ByteArray := [⟨#[]⟩, ⟨#[40, 97, 41]⟩, ⟨#[40, 97, 32, 42, 32, 42]⟩, ⟨#[40, 105, 32, 42, 32, 42, 41]⟩, ⟨#[40, 97, 32, 32, 42, 32, 42, 41]⟩, ⟨#[42, 42]⟩, ⟨#[40, 97, 32, 42, 41]⟩, ⟨#[40, 97, 32, 42, 32, 42, 32, 42, 32, 42, 32, 42, 32, 42, 32, 42, 41]⟩]

theorem badTexts_size : ∀ s ∈ badTexts, s.size ≤ 2000 := by decide

def badCells : Array Value := #[.string ⟨#[]⟩, .string ⟨#[40, 97, 41]⟩, .string ⟨#[40, 97, 32, 42, 32, 42]⟩, .string ⟨#[40, 105, 32, 42, 32, 42, 41]⟩, .string ⟨#[40, 97, 32, 32, 42, 32, 42, 41]⟩, .string ⟨#[42, 42]⟩, .string ⟨#[40, 97, 32, 42, 41]⟩, .string ⟨#[40, 97, 32, 42, 32, 42, 32, 42, 32, 42, 32, 42, 32, 42, 32, 42, 41]⟩]

theorem badCells_get : ∀ j (h : j < 8), badCells[j]? = some (.string (badTexts[j]'h)) := by
  intro j h
  match j, h with
  | 0, _ => rfl
  | 1, _ => rfl
  | 2, _ => rfl
  | 3, _ => rfl
  | 4, _ => rfl
  | 5, _ => rfl
  | 6, _ => rfl
  | 7, _ => rfl

theorem bad_of (R : Nat) (a : Option Addr) (cap : Nat) (bs : List Nat) (p : Nat) (w : World) (h : RdR w R a cap bs p) (hp : p ≤ 1000000) :
    Calls Tryz.prog 48 #[.pointer (some ⟨R, 0, none⟩), .slice (some ⟨w.heap.size, 0, none⟩) 8 8] (w.alloc (.cells badCells 9 (0, 0))) (OfPost R a cap bs p badTexts (w.alloc (.cells badCells 9 (0, 0)))) := by
  refine of_any R a cap p bs _ w.heap.size 0 8 badTexts (h.grown (grownBy_below (grownBy_refl w none) ((Below.refl _ _).alloc (Nat.le_refl _) _)) (fun _ e => by cases e)) hp (by decide) (by decide) (by have := h.cells.2.2.2; omega) ?_
  intro j hj
  have h1 : (w.alloc (.cells badCells 9 (0, 0))).heap[w.heap.size]? = some (.cells badCells 9 (0, 0)) := heap_alloc_new w _
  simp only [World.cell?, h1, Nat.zero_add]
  exact badCells_get j hj

/-- What a draw of a text is good for. -/
def DrPost (w : World) (e : Ending) (w' : World) : Prop := Below w.heap.size w w' ∧ ∃ s : ByteArray, e = .returned (.string s) ∧ s.size ≤ 2000

theorem below_over {w w1 w2 : World} {row : Option Nat} (h : Below w.heap.size w w1) (hg : w1.grownBy w2 row) (hr : ∀ r, row = some r → w.heap.size ≤ r) : Below w.heap.size w w2 :=
  h.grown hg h.size hr

end Go.Proofs.YtdjcgakmeebijaaGreat
end
section
/- A letter is drawn. -/
namespace Go.Proofs.YtdjcgakmeebijaaGreat
open Go.RowKit

theorem keeps_row {w w' : World} {R : Nat} (hg : w.grownBy w' (some R)) (P : Nat → Prop) (hP : ∀ b, P b → b ≠ R) : Keeps P w w' := fun q v hq hv => by
  rw [World.cell?_of_block (hg.block q.block (World.block_lt_of_cell? w q hv) (fun e => hP _ hq (by cases e; rfl)))]
  exact hv

def abCells : Array Value := #[.string ⟨#[97]⟩, .string ⟨#[98]⟩]
def abTexts : List ByteArray := [⟨#[97]⟩, ⟨#[98]⟩]

theorem ab_of (R : Nat) (a : Option Addr) (cap : Nat) (bs : List Nat) (p : Nat) (w : World) (h : RdR w R a cap bs p) (hp : p ≤ 1000000) :
    Calls Tryz.prog 48 #[.pointer (some ⟨R, 0, none⟩), .slice (some ⟨w.heap.size, 0, none⟩) 2 2] (w.alloc (.cells abCells 9 (0, 0))) (OfPost R a cap bs p abTexts (w.alloc (.cells abCells 9 (0, 0)))) := by
  refine of_any R a cap p bs _ w.heap.size 0 2 abTexts (h.grown (grownBy_below (grownBy_refl w none) ((Below.refl _ _).alloc (Nat.le_refl _) _)) (fun _ e => by cases e)) hp (by decide) (by decide) (by have := h.cells.2.2.2; omega) ?_
  intro j hj
  have h1 : (w.alloc (.cells abCells 9 (0, 0))).heap[w.heap.size]? = some (.cells abCells 9 (0, 0)) := heap_alloc_new w _
  simp only [World.cell?, h1, Nat.zero_add]
  have hj2 : j < 2 := hj
  rcases j with _ | _ | j
  · rfl
  · rfl
  · omega

end Go.Proofs.YtdjcgakmeebijaaGreat
end
end
section
/- A tree with just so many leaves is drawn. -/
namespace Go.Proofs.YtdjcgakmeebijaaGreat
open Go.RowKit

theorem ab_letter {s : ByteArray} (hs : s ∈ abTexts) : ∃ c : UInt8, s = ⟨#[c]⟩ ∧ 97 ≤ c.toNat ∧ c.toNat ≤ 104 := by
  simp only [abTexts, List.mem_cons, List.not_mem_nil, or_false] at hs
  rcases hs with rfl | rfl
  · exact ⟨97, rfl, by decide, by decide⟩
  · exact ⟨98, rfl, by decide, by decide⟩

theorem put_two2 {w : World} {q : Nat} {a b : Value} {ty : TypeId} (h : w.heap[q]? = some (.cells #[a, b] ty (0, 0))) (x y : Value) :
    ((w.setCell ⟨q, 0, none⟩ x).setCell ⟨q, 1, none⟩ y).heap[q]? = some (.cells #[x, y] ty (0, 0)) := by
  have := heap_setCell_same (k := 1) (heap_setCell_same (k := 0) h x) y
  simpa using this

theorem cell_put2 {w : World} {q : Nat} {p : Addr} {v : Value} (h : w.cell? p = some v) (hne : p.block ≠ q) (x y : Value) : ((w.setCell ⟨q, 0, none⟩ x).setCell ⟨q, 1, none⟩ y).cell? p = some v := by
  rw [World.cell?_of_block (w := w)]
  · exact h
  · rw [Below.heap_setCell _ _ _ _ hne, Below.heap_setCell _ _ _ _ hne]

/-- A drawn tree with just so many leaves. -/
def ShapeDr (R : Nat) (a : Option Addr) (cap : Nat) (bs : List Nat) (p n : Nat) (w : World) (e : Ending) (w' : World) : Prop :=
  w.grownBy w' (some R) ∧ ∃ (t : T) (lb : ByteArray) (sa : Option Addr) (sn sc q : Nat), e = .returned (.agg #[.string lb, .slice sa sn sc]) ∧ RepS w' (fun b => w.heap.size ≤ b) t (.string lb) (.slice sa sn sc) ∧
    t.wf ∧ t.leaves ≤ n ∧ t.nodes + 1 ≤ n ∧ RdR w' R a cap bs q ∧ q + 2 ≤ p + 2 * n

set_option maxRecDepth 100000 in
set_option maxHeartbeats 2000000 in
theorem l91Shape_any (R : Nat) (a : Option Addr) (cap : Nat) (bs : List Nat) : ∀ (m n p : Nat) (w : World), n ≤ m → 1 ≤ n → n ≤ 100 → p + 2 * n ≤ 1000000 → RdR w R a cap bs p →
    Calls Tryz.prog 29 #[.pointer (some ⟨R, 0, none⟩), .int .i64 n] w (ShapeDr R a cap bs p n w) := by
  intro m
  induction m with
  | zero => intro n p w h1 h2; omega
  | succ m ih =>
    intro n p w hnm hn1 hn2 hp h
    have hRw : R < w.heap.size := h.cells.2.2.2
    obtain ⟨w0, hw0⟩ : ∃ w0, w0 = w.alloc (.cells #[.string ⟨#[]⟩, .slice none 0 0] 63 (0, 0)) := ⟨_, rfl⟩
    have hg0 : w.grownBy w0 none := by rw [hw0]; exact grownBy_below (grownBy_refl w none) ((Below.refl _ _).alloc (Nat.le_refl _) _)
    have hb0 : w0.heap[w.heap.size]? = some (.cells #[.string ⟨#[]⟩, .slice none 0 0] 63 (0, 0)) := by rw [hw0]; exact heap_alloc_new w _
    have hs0 : w0.heap.size = w.heap.size + 1 := by rw [hw0]; simp
    have hr0 := h.grown hg0 (fun _ e => by cases e)
    have hgR0 : w.grownBy w0 (some R) := by rw [hw0]; exact grownBy_below (grownBy_refl w (some R)) ((Below.refl _ _).alloc (Nat.le_refl _) _)
    have HW0 := Lib.hid hw0
    have HG0 := Lib.hid hgR0
    have HB0 := Lib.hid hb0
    have HS0 := Lib.hid hs0
    have HR0 := Lib.hid hr0
    clear h hw0 hg0 hgR0 hr0 hb0
    by_cases h1 : n = 1
    · subst h1
      clear ih hs0
      go_enter Tryz.func29, Tryz.ntmps29
      go_wp2_with fail
      refine bodyPost_ret (v := .agg #[.string ⟨#[]⟩, .slice none 0 0]) (by simp [results, Tryz.results29, go_sem]) rfl ?_
      have hg : w.grownBy (w.alloc (.cells #[.string ⟨#[]⟩, .slice none 0 0] 63 (0, 0))) none := grownBy_below (grownBy_refl w none) ((Below.refl _ _).alloc (Nat.le_refl _) _)
      exact ⟨grownBy_below (grownBy_refl w (some R)) ((Below.refl _ _).alloc (Nat.le_refl _) _), .leaf, ⟨#[]⟩, none, 0, 0, p, rfl, by rw [RepS]; exact ⟨rfl, rfl⟩, by simp [T.wf], by simp [T.leaves], by simp [T.nodes], by have := HR0.out; rw [HW0.out] at this; exact this, by omega⟩
    · obtain ⟨n', hn'⟩ : ∃ n', n' + 1 = n := ⟨n - 1, by omega⟩
      have e1 : decide ((n : Int) ≤ 1) = false := decide_eq_false (by omega)
      have hwm : IntKind.i64.wrap ((n : Int) - 1) = (n' : Int) := by rw [IntKind.wrap_i64]; omega
      have HP1 := Lib.hid (pick_any R a cap p n' bs w0 HR0.out (by omega) (by omega) (by omega))
      clear hs0
      go_enter Tryz.func29, Tryz.ntmps29
      go_wp2_with fail
      rw [← HW0.out]
      refine HP1.out.mono ?_
      rintro e w1 ⟨⟨j, hj, rfl⟩, hg1, hs1, hr1⟩
      have hs0 := HS0.out
      have hs1' : w1.heap.size = w.heap.size + 1 := by omega
      have HG1 := Lib.hid (grownBy_trans HG0.out hg1)
      have HB1 : Hid (w1.heap[w.heap.size]? = some (.cells #[.string ⟨#[]⟩, .slice none 0 0] 63 (0, 0))) := Lib.hid (by rw [hg1.block w.heap.size (by omega) (by simp only [ne_eq, Option.some.injEq]; omega)]; exact HB0.out)
      obtain ⟨k, hk⟩ : ∃ k, k = 1 + j := ⟨_, rfl⟩
      have HJK : Hid (1 + (j : Int) = (k : Int)) := Lib.hid (by omega)
      have hk1 : 1 ≤ k ∧ k < n := by omega
      have hwk : IntKind.i64.wrap (1 + (j : Int)) = (k : Int) := by rw [IntKind.wrap_i64]; omega
      obtain ⟨l, hl⟩ : ∃ l, l + k = n := ⟨n - k, by omega⟩
      have hwl : IntKind.i64.wrap ((n : Int) - (k : Int)) = (l : Int) := by rw [IntKind.wrap_i64]; omega
      have HT1 := Lib.hid (ih k (p + 1) w1 (by omega) (by omega) (by omega) (by omega) hr1)
      have HS1 := Lib.hid hs1'
      clear hg1 hr1 hs1 hs0 hs1' hk
      go_wp2_with fail
      refine HT1.out.mono ?_
      rintro e w2 ⟨hg2, t1, lb1, sa1, sn1, sc1, q1, rfl, hrep1, hwf1, hlv1, hnd1, hrd1, hq1⟩
      have HG2 := Lib.hid (grownBy_trans HG1.out hg2)
      have hs2 : w.heap.size + 1 ≤ w2.heap.size := by have := hg2.size; have := HS1.out; omega
      have HB2 : Hid (w2.heap[w.heap.size]? = some (.cells #[.string ⟨#[]⟩, .slice none 0 0] 63 (0, 0))) := Lib.hid (by rw [hg2.block w.heap.size (by have := HS1.out; omega) (by simp only [ne_eq, Option.some.injEq]; omega)]; exact HB1.out)
      have HRP1 := Lib.hid (hrep1.keep (P' := fun b => w.heap.size < b) (fun _ _ _ h => h) (fun b h _ => by have := HS1.out; omega) hwf1)
      obtain ⟨wb, hwb⟩ : ∃ wb, wb = w2.alloc (.cells #[.string lb1, .slice sa1 sn1 sc1] 63 (0, 0)) := ⟨_, rfl⟩
      have hbb : Below w2.heap.size w2 wb := by rw [hwb]; exact (Below.refl _ _).alloc (Nat.le_refl _) _
      have hsb : wb.heap.size = w2.heap.size + 1 := by rw [hwb]; simp
      obtain ⟨c0, c1, _, _⟩ := two_cells (by rw [hwb]; exact heap_alloc_new w2 _ : wb.heap[w2.heap.size]? = some (.cells #[.string lb1, .slice sa1 sn1 sc1] 63 (0, 0)))
      have hba : Below wb.heap.size wb (wb.alloc (.cells abCells 9 (0, 0))).drew := ((Below.refl _ _).alloc (Nat.le_refl _) _).drew
      have HAB := Lib.hid hba
      have hbd : Below w2.heap.size w2 wb.drew := hbb.drew
      have HO : Hid (Calls Tryz.prog 48 #[.pointer (some ⟨R, 0, none⟩), .slice (some ⟨w2.heap.size + 1, 0, none⟩) 2 2] (wb.alloc (.cells abCells 9 (0, 0))).drew (OfPost R a cap bs q1 abTexts (wb.alloc (.cells abCells 9 (0, 0))).drew)) := Lib.hid (by
        have h5 := ab_of R a cap bs q1 wb.drew (hrd1.grown (grownBy_below (grownBy_refl _ none) hbd) (fun _ e => by cases e)) (by omega)
        rw [show wb.drew.heap.size = w2.heap.size + 1 from hsb] at h5
        exact h5)
      have HGB := Lib.hid (grownBy_below (grownBy_below HG2.out hbb) hba)
      have HWB := Lib.hid hwb
      have HBA := Lib.hid (hbb.trans (hba.mono hbb.size))
      clear hg2 hrep1 hrd1 hwb hbb hba hbd
      go_wp2_with fail
      rw [← HWB.out]
      refine wp_region_held_drew (S := (fun w' => w'.cell? ⟨w2.heap.size, 0, none⟩ = some (.string lb1) ∧ w'.cell? ⟨w2.heap.size, 1, none⟩ = some (.slice sa1 sn1 sc1))) (by kernel_rfl) (by exact ⟨c0, c1⟩) (fun hHeld => ?_)
      refine wpAnyH_take (i := 0) (oi := { dst := some 18, op := Op.move (Operand.tmp 0), type := 35, pos := "l91_draw.go:187", after := #[], guard := none }) (v := ?_) rfl (by kernel_rfl) (by kernel_rfl) (by kernel_rfl) (fun _ _ _ h => h) (Or.inl ⟨by rfl, ?_⟩) (by assumption) ?_
      rotate_left
      · (intro w hSw; (try dsimp only at hSw); go_simp <;> with_reducible rfl)
      (try simp only [Act.put, List.setIfInBounds_toArray, List.set_cons_zero, List.set_cons_succ])
      refine wpAnyH_take (i := 3) (oi := { dst := some 21, op := Op.load 63 (Operand.tmp 6), type := 63, pos := "l91_draw.go:187", after := #[], guard := none }) (v := ?_) rfl (by kernel_rfl) (by kernel_rfl) (by kernel_rfl) (fun _ _ _ h => h) (Or.inl ⟨by rfl, ?_⟩) (by assumption) ?_
      rotate_left
      · (intro w hSw; (try dsimp only at hSw); go_simp <;> with_reducible rfl)
      (try simp only [Act.put, List.setIfInBounds_toArray, List.set_cons_zero, List.set_cons_succ])
      refine wpAnyH_take (i := 4) (oi := { dst := some 22, op := Op.move (Operand.tmp 0), type := 35, pos := "l91_draw.go:187", after := #[], guard := none }) (v := ?_) rfl (by kernel_rfl) (by kernel_rfl) (by kernel_rfl) (fun _ _ _ h => h) (Or.inl ⟨by rfl, ?_⟩) (by assumption) ?_
      rotate_left
      · (intro w hSw; (try dsimp only at hSw); go_simp <;> with_reducible rfl)
      (try simp only [Act.put, List.setIfInBounds_toArray, List.set_cons_zero, List.set_cons_succ])
      refine wpAnyH_take (i := 5) (oi := { dst := some 23, op := Op.move (Operand.tmp 1), type := 3, pos := "l91_draw.go:187", after := #[], guard := none }) (v := ?_) rfl (by kernel_rfl) (by kernel_rfl) (by kernel_rfl) (fun _ _ _ h => h) (Or.inl ⟨by rfl, ?_⟩) (by assumption) ?_
      rotate_left
      · (intro w hSw; (try dsimp only at hSw); go_simp <;> with_reducible rfl)
      (try simp only [Act.put, List.setIfInBounds_toArray, List.set_cons_zero, List.set_cons_succ])
      refine wpAnyH_take (i := 6) (oi := { dst := some 24, op := Op.move (Operand.tmp 5), type := 3, pos := "l91_draw.go:187", after := #[], guard := none }) (v := ?_) rfl (by kernel_rfl) (by kernel_rfl) (by kernel_rfl) (fun _ _ _ h => h) (Or.inl ⟨by rfl, ?_⟩) (by assumption) ?_
      rotate_left
      · (intro w hSw; (try dsimp only at hSw); go_simp <;> with_reducible rfl)
      (try simp only [Act.put, List.setIfInBounds_toArray, List.set_cons_zero, List.set_cons_succ])
      refine wpAnyH_take (i := 7) (oi := { dst := some 25, op := Op.binOp BinOp.sub 3 (Operand.tmp 23) (Operand.tmp 24) 3, type := 3, pos := "l91_draw.go:187", after := #[{ on := 5, ground := Ground.data }, { on := 6, ground := Ground.data }], guard := none }) (v := ?_) rfl (by kernel_rfl) (by kernel_rfl) (by kernel_rfl) (fun _ _ _ h => h) (Or.inl ⟨by rfl, ?_⟩) (by assumption) ?_
      rotate_left
      · (intro w hSw; (try dsimp only at hSw); go_simp <;> with_reducible rfl)
      (try simp only [Act.put, List.setIfInBounds_toArray, List.set_cons_zero, List.set_cons_succ])
      refine wpAnyH_ready (rs := [1]) (by kernel_rfl) (by simp) ?_
      refine AllReadyH.cons (o := { dst := some 19, op := Op.buildSlice 48 2 #[(0, Operand.const (Value.string { data := #[97] })), (1, Operand.const (Value.string { data := #[98] }))], type := 48, pos := "l91_draw.go:187", after := #[], guard := none }) rfl (fun K hK => ?_) AllReadyH.nil
      go_simp
      go_wp2_with fail
      refine hK.out _ _ ?_ (fun hHeld => ?_)
      · exact ⟨keep1 HAB.out c0, keep1 HAB.out c1⟩
      clear hK K
      (try simp only [Act.put, List.setIfInBounds_toArray, List.set_cons_zero, List.set_cons_succ])
      refine wpAnyH_ready (rs := [2]) (by kernel_rfl) (by simp) ?_
      refine AllReadyH.cons (o := { dst := some 20, op := Op.call { callee := Callee.value (Operand.func 48), args := #[Operand.tmp 18, Operand.tmp 19], argTypes := #[35, 48] }, type := 9, pos := "l91_draw.go:187", after := #[{ on := 0, ground := Ground.data }, { on := 1, ground := Ground.data }], guard := none }) rfl (fun K hK => ?_) AllReadyH.nil
      go_simp
      go_wp2_with fail
      refine HO.out.mono ?_
      rintro e w3 ⟨⟨s, hs, rfl⟩, hg3, hs3, hr3⟩
      obtain ⟨ch, hch, hc1, hc2⟩ := ab_letter hs
      subst hch
      have d0 := keeps_row hg3 (fun b => b ≠ R) (fun b h => h) _ _ (show w2.heap.size ≠ R by omega) (keep1 HAB.out c0)
      have d1 := keeps_row hg3 (fun b => b ≠ R) (fun b h => h) _ _ (show w2.heap.size ≠ R by omega) (keep1 HAB.out c1)
      have HG3 := Lib.hid (grownBy_trans HGB.out hg3)
      have HS3 := Lib.hid hs3
      have hs4 := HG3.out.size
      have HT2 := Lib.hid (ih l (q1 + 1) w3 (by omega) (by omega) (by omega) (by omega) hr3)
      have HG3R := Lib.hid hg3
      clear hg3 hs3 hr3 hs
      go_wp2_with fail
      refine hK.out _ _ ?_ (fun hHeld => ?_)
      · exact ⟨d0, d1⟩
      clear hK K
      (try simp only [Act.put, List.setIfInBounds_toArray, List.set_cons_zero, List.set_cons_succ])
      refine wpAnyH_ready (rs := [8]) (by kernel_rfl) (by simp) ?_
      refine AllReadyH.cons (o := { dst := some 26, op := Op.call { callee := Callee.value (Operand.func 29), args := #[Operand.tmp 22, Operand.tmp 25], argTypes := #[35, 3] }, type := 63, pos := "l91_draw.go:187", after := #[{ on := 4, ground := Ground.data }, { on := 7, ground := Ground.data }, { on := 2, ground := Ground.chain }], guard := none }) rfl (fun K hK => ?_) AllReadyH.nil
      go_simp
      go_wp2_with fail
      refine HT2.out.mono ?_
      rintro e w4 ⟨hg4, t2, lb2, sa2, sn2, sc2, q2, rfl, hrep2, hwf2, hlv2, hnd2, hrd2, hq2⟩
      have e0 := keeps_row hg4 (fun b => b ≠ R) (fun b h => h) _ _ (show w2.heap.size ≠ R by omega) d0
      have e1 := keeps_row hg4 (fun b => b ≠ R) (fun b h => h) _ _ (show w2.heap.size ≠ R by omega) d1
      have HG4 := Lib.hid hg4
      have HREP2 := Lib.hid hrep2
      have HRD2 := Lib.hid hrd2
      clear hg4 hrep2 hrd2
      go_wp2_with fail
      refine hK.out _ _ ?_ (fun hHeld => ?_)
      · exact ⟨e0, e1⟩
      clear hK K
      (try simp only [Act.put, List.setIfInBounds_toArray, List.set_cons_zero, List.set_cons_succ])
      refine wpAnyH_ready (rs := [9]) (by kernel_rfl) (by simp) ?_
      refine AllReadyH.cons (o := { dst := some 27, op := Op.buildSlice 61 2 #[(0, Operand.tmp 21), (1, Operand.tmp 26)], type := 61, pos := "l91_draw.go:187", after := #[{ on := 3, ground := Ground.data }, { on := 8, ground := Ground.data }], guard := none }) rfl (fun K hK => ?_) AllReadyH.nil
      go_simp
      go_wp2_with fail
      refine hK.out _ _ ?_ (fun hHeld => ?_)
      · exact ⟨keep1 ((Below.refl w4.heap.size w4).alloc (Nat.le_refl _) (.cells #[.string lb1, .slice sa1 sn1 sc1, .string lb2, .slice sa2 sn2 sc2] 63 (0, 0))) e0, keep1 ((Below.refl w4.heap.size w4).alloc (Nat.le_refl _) (.cells #[.string lb1, .slice sa1 sn1 sc1, .string lb2, .slice sa2 sn2 sc2] 63 (0, 0))) e1⟩
      clear hK K
      (try simp only [Act.put, List.setIfInBounds_toArray, List.set_cons_zero, List.set_cons_succ])
      refine wpAnyH_take (i := 10) (oi := { dst := some 28, op := Op.build 63 #[(0, Operand.tmp 20), (1, Operand.tmp 27)], type := 63, pos := "l91_draw.go:187", after := #[{ on := 2, ground := Ground.data }, { on := 9, ground := Ground.data }], guard := none }) (v := ?_) rfl (by kernel_rfl) (by kernel_rfl) (by kernel_rfl) (fun _ _ _ h => h) (Or.inl ⟨by rfl, ?_⟩) (by assumption) ?_
      rotate_left
      · (intro w hSw; (try dsimp only at hSw); go_simp <;> with_reducible rfl)
      (try simp only [Act.put, List.setIfInBounds_toArray, List.set_cons_zero, List.set_cons_succ])
      refine wpAnyH_ready (rs := [11]) (by kernel_rfl) (by simp) ?_
      refine AllReadyH.cons (o := { dst := none, op := Op.store 63 (Operand.tmp 4) (Operand.tmp 28), type := 0, pos := "l91_draw.go:187", after := #[{ on := 10, ground := Ground.data }, { on := 8, ground := Ground.chain }, { on := 0, ground := Ground.phase }, { on := 1, ground := Ground.phase }, { on := 2, ground := Ground.phase }, { on := 3, ground := Ground.phase }, { on := 4, ground := Ground.phase }, { on := 5, ground := Ground.phase }, { on := 6, ground := Ground.phase }, { on := 7, ground := Ground.phase }, { on := 8, ground := Ground.phase }, { on := 9, ground := Ground.phase }, { on := 10, ground := Ground.phase }], guard := none }) rfl (fun K hK => ?_) AllReadyH.nil
      have hsw4 := HG4.out.size
      have hz2 := HBA.out.size
      have hz3 := HG3R.out.size
      have hB4 : w4.heap[w.heap.size]? = some (.cells #[.string ⟨#[]⟩, .slice none 0 0] 63 (0, 0)) := by rw [HG4.out.block w.heap.size (by omega) (by simp only [ne_eq, Option.some.injEq]; omega), HG3R.out.block w.heap.size (by omega) (by simp only [ne_eq, Option.some.injEq]; omega), HBA.out.block w.heap.size (by omega)]; exact HB2.out
      have HB4 := Lib.hid hB4
      obtain ⟨r0, r1, f0, f1⟩ := two_cells hB4
      have hl4 : w.heap.size < w4.heap.size := by omega
      clear hB4
      go_simp
      go_wp2_with fail
      refine hK.out _ _ ?_ (fun hHeld => ?_)
      · exact ⟨keep1 ((Below.refl _ _).alloc (Nat.le_refl _) _) (cell_put2 e0 (show w2.heap.size ≠ w.heap.size by omega) _ _), keep1 ((Below.refl _ _).alloc (Nat.le_refl _) _) (cell_put2 e1 (show w2.heap.size ≠ w.heap.size by omega) _ _)⟩
      clear hK K
      (try simp only [Act.put, List.setIfInBounds_toArray, List.set_cons_zero, List.set_cons_succ])
      refine wpAnyH_done (by kernel_rfl) ?_ _
      all_goals
        obtain ⟨wp, hwp⟩ : ∃ wp, wp = (w4.setCell ⟨w.heap.size, 0, none⟩ (.string ⟨#[ch]⟩)).setCell ⟨w.heap.size, 1, none⟩ (.slice (some ⟨w4.heap.size, 0, none⟩) 2 2) := ⟨_, rfl⟩
        have hgp : wp.heap[w.heap.size]? = some (.cells #[.string ⟨#[ch]⟩, .slice (some ⟨w4.heap.size, 0, none⟩) 2 2] 63 (0, 0)) := by rw [hwp]; exact put_two2 HB4.out _ _
        have hsp : wp.heap.size = w4.heap.size := by rw [hwp]; simp
        have hkp : ∀ (q : Addr) (v : Value), q.block ≠ w.heap.size → w4.cell? q = some v → wp.cell? q = some v := fun q v hq hv => by rw [hwp]; exact cell_put2 hv hq _ _
        have hgwp : w4.grownBy wp (some w.heap.size) := by rw [hwp]; exact grownBy_setCell (grownBy_setCell (grownBy_refl _ _) _) _
        rw [← hwp]
        have hnew := heap_alloc_new wp (.cells #[.string lb1, .slice sa1 sn1 sc1, .string lb2, .slice sa2 sn2 sc2] 63 (0, 0))
        obtain ⟨wr, hwr⟩ : ∃ wr, wr = wp.alloc (.cells #[.string lb1, .slice sa1 sn1 sc1, .string lb2, .slice sa2 sn2 sc2] 63 (0, 0)) := ⟨_, rfl⟩
        have hbr : Below wp.heap.size wp wr := by rw [hwr]; exact (Below.refl _ _).alloc (Nat.le_refl _) _
        rw [← hwr]
        rw [← hwr, hsp] at hnew
        clear hwp hwr
        obtain ⟨t0, t1', _, _⟩ := two_cells ((hbr.block _ (by omega)).trans hgp)
        have hk4 : Keeps (fun b => b ≠ w.heap.size) w4 wr := fun q v hq hv => keep1 hbr (hkp q v hq hv)
        have hrw : Keeps (fun b => w.heap.size < b) w2 w4 := fun q v hq hv => keeps_row HG4.out (fun b => b ≠ R) (fun b h => h) q v (by omega) (keeps_row HG3R.out (fun b => b ≠ R) (fun b h => h) q v (by omega) (keep1 HBA.out hv))
        have hr1' := (HRP1.out.keep (P' := fun b => w.heap.size < b) hrw (fun b h _ => h) hwf1).keep (P' := fun b => w.heap.size ≤ b) (fun q v hq hv => hk4 q v (by omega) hv) (fun b h _ => by omega) hwf1
        have hr2' := HREP2.out.keep (P' := fun b => w.heap.size ≤ b) (fun q v hq hv => hk4 q v (by omega) hv) (fun b h _ => by omega) hwf2
        have hrep : RepS wr (fun b => w.heap.size ≤ b) (T.node ch [t1, t2]) (.string ⟨#[ch]⟩) (.slice (some ⟨w4.heap.size, 0, none⟩) 2 2) := by
          rw [RepS]
          refine ⟨rfl, w4.heap.size, 2, rfl, by omega, by simp, ?_⟩
          rw [RepSL, RepSL, RepSL]
          exact ⟨⟨.string lb1, .slice sa1 sn1 sc1, by rw [Lib.cell_of_heap hnew]; rfl, by rw [Lib.cell_of_heap hnew]; rfl, hr1'⟩, ⟨.string lb2, .slice sa2 sn2 sc2, by rw [Lib.cell_of_heap hnew]; rfl, by rw [Lib.cell_of_heap hnew]; rfl, hr2'⟩, trivial⟩
        have hwf : (T.node ch [t1, t2]).wf := by
          simp only [T.wf, T.wfL, List.length_cons, List.length_nil]
          exact ⟨hc1, hc2, by omega, by omega, hwf1, hwf2, trivial⟩
        have HREP := Lib.hid hrep
        have HRDF := Lib.hid ((HRD2.out.grown hgwp (fun r e => by cases e; exact hRw)).grown (grownBy_below (grownBy_refl _ none) hbr) (fun _ e => by cases e))
        have HGF := Lib.hid (grownBy_below (grownBy_over (grownBy_trans HG3.out HG4.out) hgwp (fun r e => by cases e; exact Nat.le_refl _)) hbr)
        have HWF := Lib.hid hwf
        clear hrep hwf hr1' hr2' hrw hk4 hkp hgwp hbr hgp hnew
        go_wp2_with fail
        refine bodyPost_ret (v := .agg #[.string ⟨#[ch]⟩, .slice (some ⟨w4.heap.size, 0, none⟩) 2 2]) (by simp [results, Tryz.results29, go_sem, t0, t1']) rfl ?_
        exact ⟨HGF.out, T.node ch [t1, t2], ⟨#[ch]⟩, _, 2, 2, q2, rfl, HREP.out, HWF.out, by simp only [T.leaves, T.leavesL]; omega, by simp only [T.nodes, T.nodesL]; omega, HRDF.out, by omega⟩

end Go.Proofs.YtdjcgakmeebijaaGreat
end
