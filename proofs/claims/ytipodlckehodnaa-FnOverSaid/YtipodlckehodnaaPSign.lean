/- A signature is drawn; FnSign, FnOver. -/
import Derived.Test.YtipodlckehodnaaKDrawT
import Derived.Test.YtipodlckehodnaaKOverS
import Derived.Test.YtipodlckehodnaaKSym
import Derived.Test.YtipodlckehodnaaKLawMirrorC
import Derived.Test.YtipodlckehodnaaRow
import Derived.Deep.RegionHeld3
namespace Go.Proofs.Ytipodlckehodnaa
open Go.RowKit

/-- A row of symbols, cell by cell. -/
def flatY (ys : List (ByteArray × Int)) : List Value := ys.flatMap fun y => [.string y.1, .int .i64 y.2]

theorem flatY_snoc (ys : List (ByteArray × Int)) (y : ByteArray × Int) : flatY (ys ++ [y]) = flatY ys ++ [.string y.1, .int .i64 y.2] := by simp [flatY]
theorem flatY_get : ∀ (ys : List (ByteArray × Int)) (j : Nat) (h : j < ys.length), (flatY ys)[j * 2]? = some (.string (ys[j]).1) ∧ (flatY ys)[j * 2 + 1]? = some (.int .i64 (ys[j]).2)
  | [], j, h => by simp at h
  | y :: ys, 0, _ => ⟨rfl, rfl⟩
  | y :: ys, j + 1, h => by
    have ih := flatY_get ys j (by simpa using h)
    simp only [flatY, List.flatMap_cons, List.getElem_cons_succ] at ih ⊢
    rw [show (j + 1) * 2 = j * 2 + 1 + 1 by omega]
    exact ih

theorem owns_symL {w : World} {base g n c : Nat} {ys : List (ByteArray × Int)} (hn : n = ys.length) (h : w.ownsRow base 126 2 (.slice (some ⟨g, 0, none⟩) n c) n (flatY ys)) : SymL w g ys := fun j hj => by
  obtain ⟨h1, h2⟩ := flatY_get ys j hj
  exact ⟨by rw [h.cellAt (j * 2) (by omega), h1], by rw [h.cellAt (j * 2 + 1) (by omega), h2]⟩

/-- The symbols are small. -/
def SySmall (ys : List (ByteArray × Int)) : Prop := ∀ j (h : j < ys.length), (ys[j]).1.size ≤ 2000 ∧ -100 ≤ (ys[j]).2 ∧ (ys[j]).2 ≤ 100

theorem SySmall.snoc {ys : List (ByteArray × Int)} {y : ByteArray × Int} (h : SySmall ys) (h1 : y.1.size ≤ 2000) (h2 : -100 ≤ y.2) (h3 : y.2 ≤ 100) : SySmall (ys ++ [y]) := fun j hj => by
  by_cases e : j < ys.length
  · rw [List.getElem_append_left e]; exact h j e
  · have : j = ys.length := by simp at hj; omega
    subst this
    simp [h1, h2, h3]
theorem SySmall.sizes {ys : List (ByteArray × Int)} (h : SySmall ys) : (∀ j (h : j < ys.length), (ys[j]).1.size ≤ 1048576) ∧ Arities ys := ⟨fun j hj => by have := (h j hj).1; omega, fun j hj => by have := h j hj; omega⟩

theorem SymL.moved {w w' : World} {R g : Nat} {ys : List (ByteArray × Int)} (h : SymL w g ys) (hg : w.grownBy w' (some R)) (hne : g ≠ R) : SymL w' g ys := fun j hj => by
  obtain ⟨h1, h2⟩ := h j hj
  exact ⟨keeps_row hg (fun b => b ≠ R) (fun b h => h) _ _ hne h1, keeps_row hg (fun b => b ≠ R) (fun b h => h) _ _ hne h2⟩
theorem SymL.grown {w w' : World} {g : Nat} {row : Option Nat} {ys : List (ByteArray × Int)} (h : SymL w g ys) (hg : w.grownBy w' row) (hne : some g ≠ row) : SymL w' g ys := fun j hj => by
  obtain ⟨h1, h2⟩ := h j hj
  constructor
  · rw [World.cell?_of_block (hg.block g (World.block_lt_of_cell? w _ h1) hne)]; exact h1
  · rw [World.cell?_of_block (hg.block g (World.block_lt_of_cell? w _ h2) hne)]; exact h2

/-- The symbols that may be drawn. -/
def allY : List (ByteArray × Int) := [(⟨#[97]⟩, 2), (⟨#[98]⟩, 2), (⟨#[99]⟩, 3), (⟨#[100]⟩, 1)]
theorem allY_small : SySmall allY := fun j hj => by
  have h : ∀ y ∈ allY, y.1.size ≤ 2000 ∧ -100 ≤ y.2 ∧ y.2 ≤ 100 := by decide
  exact h _ (List.getElem_mem hj)

/-- A drawn signature. -/
def SignDr (R : Nat) (a : Option Addr) (cap : Nat) (bs : List Nat) (p : Nat) (w : World) (e : Ending) (w' : World) : Prop :=
  w.grownBy w' (some R) ∧ ∃ (ys : List (ByteArray × Int)) (g n c q : Nat), e = .returned (.slice (some ⟨g, 0, none⟩) n c) ∧ n = ys.length ∧ n ≤ 60 ∧ n ≤ c ∧ c ≤ 9223372036854775807 ∧ SySmall ys ∧ SymL w' g ys ∧ w.heap.size ≤ g ∧ RdR w' R a cap bs q ∧ q ≤ p + 200

set_option maxRecDepth 100000 in
set_option maxHeartbeats 2000000 in
theorem l91Sign_any (R : Nat) (a : Option Addr) (cap : Nat) (bs : List Nat) (p : Nat) (w : World) (hp : p ≤ 10000) (h : RdR w R a cap bs p) :
    Calls Try.prog 84 #[.pointer (some ⟨R, 0, none⟩)] w (SignDr R a cap bs p w) := by
  have hRw : R < w.heap.size := h.cells.2.2.2
  obtain ⟨i0, hi0, hzz, hzs, hzby⟩ := info_parts infoSym
  obtain ⟨w0, hw0⟩ : ∃ w0, w0 = w.alloc (.cells #[.string ⟨#[97]⟩, .int .i64 2, .string ⟨#[98]⟩, .int .i64 2, .string ⟨#[99]⟩, .int .i64 3, .string ⟨#[100]⟩, .int .i64 1] 126 (0, 0)) := ⟨_, rfl⟩
  have hs0 : w0.heap.size = w.heap.size + 1 := by rw [hw0]; simp
  have hal0 : SymL w0 w.heap.size allY := fun j hj => by
    have hnew : w0.heap[w.heap.size]? = some (.cells #[.string ⟨#[97]⟩, .int .i64 2, .string ⟨#[98]⟩, .int .i64 2, .string ⟨#[99]⟩, .int .i64 3, .string ⟨#[100]⟩, .int .i64 1] 126 (0, 0)) := by rw [hw0]; exact heap_alloc_new w _
    have h4 : j < 4 := hj
    simp only [Lib.cell_of_heap hnew]
    rcases j with _ | _ | _ | _ | j
    · exact ⟨rfl, rfl⟩
    · exact ⟨rfl, rfl⟩
    · exact ⟨rfl, rfl⟩
    · exact ⟨rfl, rfl⟩
    · omega
  have hg0 : w.grownBy w0 (some R) := by rw [hw0]; exact grownBy_below (grownBy_refl w (some R)) ((Below.refl _ _).alloc (Nat.le_refl _) _)
  have hr0 : RdR w0 R a cap bs p := h.grown (by rw [hw0]; exact grownBy_below (grownBy_refl w none) ((Below.refl _ _).alloc (Nat.le_refl _) _)) (fun _ e => by cases e)
  obtain ⟨w1, hw1⟩ : ∃ w1, w1 = w0.alloc (.cells #[] 126 (0, 0)) := ⟨_, rfl⟩
  have hb1 : Below w0.heap.size w0 w1 := by rw [hw1]; exact (Below.refl _ _).alloc (Nat.le_refl _) _
  have HW0 := Lib.hid hw0
  have HW1 := Lib.hid hw1
  have HAL1 := Lib.hid (hal0.below hb1)
  have HG1 := Lib.hid (grownBy_below hg0 hb1)
  have HR1 := Lib.hid (hr0.grown (grownBy_below (grownBy_refl w0 none) hb1) (fun _ e => by cases e))
  have HOWN1 : Hid (w1.ownsRow (w.heap.size + 1) 126 2 (.slice (some ⟨w.heap.size + 1, 0, none⟩) 0 0) 0 (flatY [])) := Lib.hid (by
    have h5 := World.ownsRow_made (base := w.heap.size + 1) (e := 126) (size := 2) w0 #[] 0 (by omega) (by simp [maxLen]) rfl
    rw [hw1, ← hs0]
    rw [← hs0] at h5
    exact h5)
  have hsz1 : w.heap.size + 1 ≤ w1.heap.size := by have := hb1.size; omega
  clear h hw0 hw1 hs0 hal0 hg0 hr0 hb1
  go_enter Try.func84, Try.ntmps84
  go_wp2_with fail
  rw [← HW0.out, ← HW1.out]
  go_loopw [4, 5] (fun lv iv wr => ∃ (ys : List (ByteArray × Int)) (k i g vc q : Nat), k = ys.length ∧ k ≤ i ∧ i ≤ 4 ∧ iv = .int .i64 i ∧ lv = .slice (some ⟨g, 0, none⟩) k vc ∧ wr.ownsRow (w.heap.size + 1) 126 2 (.slice (some ⟨g, 0, none⟩) k vc) k (flatY ys) ∧ RdR wr R a cap bs q ∧ q ≤ p + i ∧ SySmall ys ∧ w.grownBy wr (some R) ∧ SymL wr w.heap.size allY ∧ w.heap.size + 1 ≤ wr.heap.size) (fun _ iv _ => 4 - (intOf iv).toNat)
  case atStart => exact ⟨[], 0, 0, w.heap.size + 1, 0, p, rfl, by omega, by omega, rfl, rfl, HOWN1.out, HR1.out, by omega, fun j hj => by simp at hj, HG1.out, HAL1.out, hsz1⟩
  case round =>
    obtain ⟨ys, k, i, g, vc, q, hky, hki, hi, rfl, rfl, hown, hr, hq, hsm, hgw, hall, hwr⟩ := hrel
    have HKY := Lib.hid hky
    have HOWN := Lib.hid hown
    have HR := Lib.hid hr
    have HSM := Lib.hid hsm
    have HGW := Lib.hid hgw
    have HALL := Lib.hid hall
    clear hky hown hsm hgw hall
    by_cases hlt : i < 4
    · have HP2 := Lib.hid (pick_any R a cap q 2 bs wr hr (by omega) (by omega) (by omega))
      have e4 : decide ((i : Int) < 4) = true := decide_eq_true (by omega)
      clear hr
      go_wp2_with fail
      refine HP2.out.mono ?_
      rintro e w5 ⟨⟨x, hx, rfl⟩, hg5, hs5, hr5⟩
      have HG5 := Lib.hid (grownBy_trans HGW.out hg5)
      have HOWN5 := Lib.hid (owns_kept_some HOWN.out hg5 (by omega))
      have HALL5 := Lib.hid (HALL.out.moved hg5 (by omega))
      have HR5 := Lib.hid hr5
      have hw5 : w.heap.size + 1 ≤ w5.heap.size := by have := hg5.size; omega
      clear hg5 hs5 hr5
      by_cases hx0 : x = 0
      · subst hx0
        have hi4 : i < allY.length := hlt
        obtain ⟨d1, d2⟩ := HALL5.out i hi4
        have hsi := allY_small i hi4
        obtain ⟨s, hs⟩ : ∃ s, s = (allY[i]).1 := ⟨_, rfl⟩
        obtain ⟨z, hz⟩ : ∃ z, z = (allY[i]).2 := ⟨_, rfl⟩
        rw [← hs] at d1 hsi
        rw [← hz] at d2 hsi
        have i0' : (0 : Int) ≤ (i : Int) := by omega
        have hi5 : i < 4 := hlt
        have HOA := Lib.hid (World.ownsRow.alloc HOWN5.out (.cells #[.string s, .int .i64 z] 126 (0, 0)))
        clear hs hz
        go_wp2_with (at_builtin; refine wpList_append_own_at _ rfl _ _ 50 rfl (w.heap.size + 1) 126 i0 (.agg #[.string ⟨#[]⟩, .int .i64 0]) 2 24 Try.underlying50 hi0 hzz hzs hzby rfl (by decide) (.slice (some ⟨g, 0, none⟩) k vc) k (flatY ys) rfl HOA.out ⟨w5.heap.size, 0, none⟩ 1 1 [.string s, .int .i64 z] rfl rfl (cells_two (by simp) _ _) (by simp [Value.oneCell']) (by unfold maxLen; omega) (by omega) (by simp; omega) ?_; intro v3 w8 hown3 hg8 hnil3 hat3)
        obtain ⟨g3, q9, rfl, _, _, _⟩ := owns_some hown3 (fun e => by have := hnil3.1 e; simp at this)
        have ha7 : Below w5.heap.size w5 (w5.alloc (.cells #[.string s, .int .i64 z] 126 (0, 0))) := (Below.refl _ _).alloc (Nat.le_refl _) _
        have HO8 : Hid (w8.ownsRow (w.heap.size + 1) 126 2 (.slice (some ⟨g3, 0, none⟩) (k + 1) q9) (k + 1) (flatY (ys ++ [(s, z)]))) := Lib.hid (by rw [flatY_snoc]; exact hown3)
        have HR8 := Lib.hid ((HR5.out.grown (grownBy_below (grownBy_refl _ none) ha7) (fun _ e => by cases e)).grown hg8 (fun r e => by have := (HOWN5.out.lt r e).1; omega))
        have HG8 := Lib.hid (grownBy_over (grownBy_below HG5.out ha7) hg8 (fun r e => by have := (HOWN5.out.lt r e).1; omega))
        have HAL8 := Lib.hid ((HALL5.out.below ha7).grown hg8 (fun e => by have := (HOWN5.out.lt w.heap.size e.symm).1; omega))
        have HS8 := Lib.hid (HSM.out.snoc (y := (s, z)) hsi.1 hsi.2.1 hsi.2.2)
        have hw8 : w.heap.size + 1 ≤ w8.heap.size := by have h5 := hg8.size; have h6 := ha7.size; omega
        clear hown3 hg8 hnil3 hat3 ha7
        go_roundw
        case rel => exact ⟨ys ++ [(s, z)], k + 1, i + 1, g3, q9, q + 1, by rw [List.length_append]; have := HKY.out; simp; omega, by omega, by omega, by go_num, rfl, HO8.out, HR8.out, by omega, HS8.out, HG8.out, HAL8.out, hw8⟩
        case measure => simp [intOf]; omega
      · have e1 : ((x : Int) == 0) = false := beq_false_of_ne (by omega)
        clear hx0
        go_wp2_with fail
        go_roundw
        case rel => exact ⟨ys, k, i + 1, g, vc, q + 1, HKY.out, by omega, by omega, by go_num, rfl, HOWN5.out, HR5.out, by omega, HSM.out, HG5.out, HALL5.out, hw5⟩
        case measure => simp [intOf]; omega
    · have hi4 : i = 4 := by omega
      subst hi4
      have HP2 := Lib.hid (pick_any R a cap q 24 bs wr hr (by omega) (by omega) (by omega))
      clear hr
      go_wp2_with fail
      refine HP2.out.mono ?_
      rintro e w5 ⟨⟨x, hx, rfl⟩, hg5, hs5, hr5⟩
      have HG5 := Lib.hid (grownBy_trans HGW.out hg5)
      have HOWN5 := Lib.hid (owns_kept_some HOWN.out hg5 (by omega))
      have HALL5 := Lib.hid (HALL.out.moved hg5 (by omega))
      have HR5 := Lib.hid hr5
      have hw5 : w.heap.size + 1 ≤ w5.heap.size := by have := hg5.size; omega
      clear hg5 hs5 hr5
      obtain ⟨gz, cz, ez, hnc, hcm, hgb⟩ := owns_some HOWN5.out (fun e => by cases e)
      cases ez
      rcases (show x = 0 ∨ x = 1 ∨ 2 ≤ x from by omega) with rfl | rfl | hx2
      · have HOA := Lib.hid (World.ownsRow.alloc HOWN5.out (.cells #[.string ⟨#[97]⟩, .int .i64 7] 126 (0, 0)))
        go_wp2_with (at_builtin; refine wpList_append_own_at _ rfl _ _ 50 rfl (w.heap.size + 1) 126 i0 (.agg #[.string ⟨#[]⟩, .int .i64 0]) 2 24 Try.underlying50 hi0 hzz hzs hzby rfl (by decide) (.slice (some ⟨g, 0, none⟩) k vc) k (flatY ys) rfl HOA.out ⟨w5.heap.size, 0, none⟩ 1 1 [.string ⟨#[97]⟩, .int .i64 7] rfl rfl (cells_two (by simp) _ _) (by simp [Value.oneCell']) (by unfold maxLen; omega) (by omega) (by simp; omega) ?_; intro v3 w8 hown3 hg8 hnil3 hat3)
        obtain ⟨g3, q9, rfl, hnc8, hcm8, hgb8⟩ := owns_some hown3 (fun e => by have := hnil3.1 e; simp at this)
        have ha7 : Below w5.heap.size w5 (w5.alloc (.cells #[.string ⟨#[97]⟩, .int .i64 7] 126 (0, 0))) := (Below.refl _ _).alloc (Nat.le_refl _) _
        have HO8 : Hid (w8.ownsRow (w.heap.size + 1) 126 2 (.slice (some ⟨g3, 0, none⟩) (k + 1) q9) (k + 1) (flatY (ys ++ [(⟨#[97]⟩, 7)]))) := Lib.hid (by rw [flatY_snoc]; exact hown3)
        have HR8 := Lib.hid ((HR5.out.grown (grownBy_below (grownBy_refl _ none) ha7) (fun _ e => by cases e)).grown hg8 (fun r e => by have := (HOWN5.out.lt r e).1; omega))
        have HG8 := Lib.hid (grownBy_over (grownBy_below HG5.out ha7) hg8 (fun r e => by have := (HOWN5.out.lt r e).1; omega))
        have HS8 := Lib.hid (HSM.out.snoc (y := ((⟨#[97]⟩ : ByteArray), (7 : Int))) (by decide) (by decide) (by decide))
        have HL8 : Hid (k + 1 = (ys ++ [((⟨#[97]⟩ : ByteArray), (7 : Int))]).length) := Lib.hid (by rw [List.length_append]; have := HKY.out; simp; omega)
        clear hown3 hg8 hnil3 hat3 ha7
        go_ret
        exact ⟨HG8.out, ys ++ [(⟨#[97]⟩, 7)], g3, k + 1, q9, q + 1, rfl, HL8.out, by omega, by omega, hcm8, HS8.out, owns_symL HL8.out HO8.out, by omega, HR8.out, by omega⟩
      · obtain ⟨q0, q1⟩ := HALL5.out 0 (by decide)
        simp only [Nat.zero_mul, Nat.zero_add] at q0 q1
        have q0 : w5.cell? ⟨w.heap.size, 0, none⟩ = some (.string ⟨#[97]⟩) := q0
        have q1 : w5.cell? ⟨w.heap.size, 1, none⟩ = some (.int .i64 2) := q1
        have HA5 : Hid (Below w5.heap.size w5 ((w5.alloc (.cells #[.string ⟨#[97]⟩, .int .i64 2, .string ⟨#[97]⟩, .int .i64 2] 126 (0, 0))).drew)) := Lib.hid (((Below.refl _ _).alloc (Nat.le_refl _) _).drew)
        have HA5' : Hid (Below w5.heap.size w5 (w5.drew.alloc (.cells #[.string ⟨#[97]⟩, .int .i64 2, .string ⟨#[97]⟩, .int .i64 2] 126 (0, 0)))) := Lib.hid ((Below.refl _ _).drew.alloc (by simp) _)
        have HOA := Lib.hid (World.ownsRow.alloc (World.ownsRow.drew HOWN5.out) (.cells #[.string ⟨#[97]⟩, .int .i64 2, .string ⟨#[97]⟩, .int .i64 2] 126 (0, 0)))
        have HNEWS : Hid (∀ j u, ([.string ⟨#[97]⟩, .int .i64 2, .string ⟨#[97]⟩, .int .i64 2] : List Value)[j]? = some u → (w5.drew.alloc (.cells #[.string ⟨#[97]⟩, .int .i64 2, .string ⟨#[97]⟩, .int .i64 2] 126 (0, 0))).cell? ((⟨w5.heap.size, 0, none⟩ : Addr).add j) = some u) := Lib.hid (fun j u hj => World.news_of_block (heap_alloc_new w5.drew (.cells #[.string ⟨#[97]⟩, .int .i64 2, .string ⟨#[97]⟩, .int .i64 2] 126 (0, 0))) j u hj)
        go_wp2_with fail
        refine wp_region_held_drew (S := (fun w' => w'.cell? ⟨w.heap.size, 0, none⟩ = some (.string ⟨#[97]⟩) ∧ w'.cell? ⟨w.heap.size, 1, none⟩ = some (.int .i64 2))) (by kernel_rfl) (by exact ⟨q0, q1⟩) (fun hHeld => ?_)
        refine wpAnyH_take (i := 0) (oi := { dst := some 38, op := Op.move (Operand.tmp 4), type := 50, pos := "l91_draw.go:124", after := #[], guard := none }) (v := ?_) rfl (by kernel_rfl) (by kernel_rfl) (by kernel_rfl) (fun _ _ _ h => h) (Or.inl ⟨by rfl, ?_⟩) (by assumption) ?_
        rotate_left
        · (intro w hSw; (try dsimp only at hSw); go_simp <;> with_reducible rfl)
        (try simp only [Act.put, List.setIfInBounds_toArray, List.set_cons_zero, List.set_cons_succ])
        refine wpAnyH_take (i := 1) (oi := { dst := some 39, op := Op.move (Operand.tmp 3), type := 50, pos := "l91_draw.go:124", after := #[], guard := none }) (v := ?_) rfl (by kernel_rfl) (by kernel_rfl) (by kernel_rfl) (fun _ _ _ h => h) (Or.inl ⟨by rfl, ?_⟩) (by assumption) ?_
        rotate_left
        · (intro w hSw; (try dsimp only at hSw); go_simp <;> with_reducible rfl)
        (try simp only [Act.put, List.setIfInBounds_toArray, List.set_cons_zero, List.set_cons_succ])
        refine wpAnyH_take (i := 2) (oi := { dst := some 40, op := Op.indexAddr 50 (Operand.tmp 39) (Operand.const (Value.int IntKind.i64 0)), type := 0, pos := "l91_draw.go:124", after := #[{ on := 1, ground := Ground.data }], guard := none }) (v := ?_) rfl (by kernel_rfl) (by kernel_rfl) (by kernel_rfl) (fun _ _ _ h => h) (Or.inl ⟨by rfl, ?_⟩) (by assumption) ?_
        rotate_left
        · (intro w hSw; (try dsimp only at hSw); go_simp <;> with_reducible rfl)
        (try simp only [Act.put, List.setIfInBounds_toArray, List.set_cons_zero, List.set_cons_succ])
        refine wpAnyH_take (i := 3) (oi := { dst := some 41, op := Op.load 126 (Operand.tmp 40), type := 126, pos := "l91_draw.go:124", after := #[{ on := 2, ground := Ground.data }], guard := none }) (v := ?_) rfl (by kernel_rfl) (by kernel_rfl) (by kernel_rfl) (fun _ _ _ h => h) (Or.inl ⟨by rfl, ?_⟩) (by assumption) ?_
        rotate_left
        · (intro w hSw; (try dsimp only at hSw); go_simp <;> with_reducible rfl)
        (try simp only [Act.put, List.setIfInBounds_toArray, List.set_cons_zero, List.set_cons_succ])
        refine wpAnyH_take (i := 4) (oi := { dst := some 42, op := Op.move (Operand.tmp 3), type := 50, pos := "l91_draw.go:124", after := #[], guard := none }) (v := ?_) rfl (by kernel_rfl) (by kernel_rfl) (by kernel_rfl) (fun _ _ _ h => h) (Or.inl ⟨by rfl, ?_⟩) (by assumption) ?_
        rotate_left
        · (intro w hSw; (try dsimp only at hSw); go_simp <;> with_reducible rfl)
        (try simp only [Act.put, List.setIfInBounds_toArray, List.set_cons_zero, List.set_cons_succ])
        refine wpAnyH_take (i := 5) (oi := { dst := some 43, op := Op.indexAddr 50 (Operand.tmp 42) (Operand.const (Value.int IntKind.i64 0)), type := 0, pos := "l91_draw.go:124", after := #[{ on := 4, ground := Ground.data }], guard := none }) (v := ?_) rfl (by kernel_rfl) (by kernel_rfl) (by kernel_rfl) (fun _ _ _ h => h) (Or.inl ⟨by rfl, ?_⟩) (by assumption) ?_
        rotate_left
        · (intro w hSw; (try dsimp only at hSw); go_simp <;> with_reducible rfl)
        (try simp only [Act.put, List.setIfInBounds_toArray, List.set_cons_zero, List.set_cons_succ])
        refine wpAnyH_take (i := 6) (oi := { dst := some 44, op := Op.load 126 (Operand.tmp 43), type := 126, pos := "l91_draw.go:124", after := #[{ on := 5, ground := Ground.data }], guard := none }) (v := ?_) rfl (by kernel_rfl) (by kernel_rfl) (by kernel_rfl) (fun _ _ _ h => h) (Or.inl ⟨by rfl, ?_⟩) (by assumption) ?_
        rotate_left
        · (intro w hSw; (try dsimp only at hSw); go_simp <;> with_reducible rfl)
        (try simp only [Act.put, List.setIfInBounds_toArray, List.set_cons_zero, List.set_cons_succ])
        refine wpAnyH_ready (rs := [7]) (by kernel_rfl) (by simp) ?_
        refine AllReadyH.cons (o := { dst := some 45, op := Op.buildSlice 50 2 #[(0, Operand.tmp 41), (1, Operand.tmp 44)], type := 50, pos := "l91_draw.go:124", after := #[{ on := 3, ground := Ground.data }, { on := 6, ground := Ground.data }], guard := none }) rfl (fun K hK => ?_) AllReadyH.nil
        go_simp
        go_wp2_with fail
        refine hK.out _ _ ?_ (fun hHeld => ?_)
        · exact ⟨keep1 HA5.out q0, keep1 HA5.out q1⟩
        clear hK K
        (try simp only [Act.put, List.setIfInBounds_toArray, List.set_cons_zero, List.set_cons_succ])
        refine wpAnyH_ready (rs := [8]) (by kernel_rfl) (by simp) ?_
        refine AllReadyH.cons (o := { dst := some 46, op := Op.call { callee := Callee.builtin Builtin.append, args := #[Operand.tmp 38, Operand.tmp 45], argTypes := #[50, 50] }, type := 50, pos := "l91_draw.go:124", after := #[{ on := 0, ground := Ground.data }, { on := 7, ground := Ground.data }], guard := none }) rfl (fun K hK => ?_) AllReadyH.nil
        refine step_append_lies _ (by rfl) _ _ 50 (by rfl) (w.heap.size + 1) 126 i0 (.agg #[.string ⟨#[]⟩, .int .i64 0]) 2 24 Try.underlying50 hi0 hzz hzs hzby rfl (by decide) (.slice (some ⟨g, 0, none⟩) k vc) k (flatY ys) (by rfl) HOA.out ⟨w5.heap.size, 0, none⟩ 2 2 [.string ⟨#[97]⟩, .int .i64 2, .string ⟨#[97]⟩, .int .i64 2] (by rfl) (by rfl) HNEWS.out (by simp [Value.oneCell']) (by decide) (by unfold maxLen; omega) (by omega) (by simp; omega) (w5.heap.size + 1) (by simp) ?_
        intro g9 q9 w9 hown9 hg9 hf9 hlt9
        have hnb : ∀ q v, q.block = w.heap.size → w5.cell? q = some v → w9.cell? q = some v := fun q v hq hv => by
          have h1 := keep1 HA5.out hv
          have h2 := World.block_lt_of_cell? _ q h1
          rw [World.cell?_of_block (hg9.block q.block h2 (fun e => by have := (HOWN5.out.lt q.block e.symm).1; omega))]
          exact h1
        have m0 := hnb ⟨w.heap.size, 0, none⟩ _ rfl q0
        have m1 := hnb ⟨w.heap.size, 1, none⟩ _ rfl q1
        refine hK.out _ _ ?_ (fun hHeld => ?_)
        · exact ⟨m0, m1⟩
        clear hK K
        (try simp only [Act.put, List.setIfInBounds_toArray, List.set_cons_zero, List.set_cons_succ])
        refine wpAnyH_take (i := 9) (oi := { dst := some 2, op := Op.assign (Operand.tmp 46), type := 50, pos := "l91_draw.go:124", after := #[{ on := 8, ground := Ground.data }, { on := 8, ground := Ground.chain }, { on := 0, ground := Ground.phase }, { on := 1, ground := Ground.phase }, { on := 2, ground := Ground.phase }, { on := 3, ground := Ground.phase }, { on := 4, ground := Ground.phase }, { on := 5, ground := Ground.phase }, { on := 6, ground := Ground.phase }, { on := 7, ground := Ground.phase }, { on := 8, ground := Ground.phase }], guard := none }) (v := ?_) rfl (by kernel_rfl) (by kernel_rfl) (by kernel_rfl) (fun _ _ _ h => h) (Or.inl ⟨by rfl, ?_⟩) (by assumption) ?_
        rotate_left
        · (intro w hSw; (try dsimp only at hSw); go_simp <;> with_reducible rfl)
        (try simp only [Act.put, List.setIfInBounds_toArray, List.set_cons_zero, List.set_cons_succ])
        refine wpAnyH_done (by kernel_rfl) ?_ _
        all_goals
          have HO9 : Hid (w9.ownsRow (w.heap.size + 1) 126 2 (.slice (some ⟨g9, 0, none⟩) (k + 2) q9) (k + 2) (flatY (ys ++ [(⟨#[97]⟩, 2)] ++ [(⟨#[97]⟩, 2)]))) := Lib.hid (by rw [flatY_snoc, flatY_snoc, List.append_assoc]; exact hown9)
          obtain ⟨gz2, cz2, ez2, hnc9, hcm9, hgb9⟩ := owns_some hown9 (fun e => by cases e)
          cases ez2
          have HR9 := Lib.hid ((HR5.out.grown (grownBy_below (grownBy_refl _ none) HA5'.out) (fun _ e => by cases e)).grown hg9 (fun r e => by have := (HOWN5.out.lt r e).1; omega))
          have HG9 := Lib.hid (grownBy_over (grownBy_below HG5.out HA5'.out) hg9 (fun r e => by have := (HOWN5.out.lt r e).1; omega))
          have HS9 := Lib.hid ((HSM.out.snoc (y := ((⟨#[97]⟩ : ByteArray), (2 : Int))) (by decide) (by decide) (by decide)).snoc (y := ((⟨#[97]⟩ : ByteArray), (2 : Int))) (by decide) (by decide) (by decide))
          have HL9 : Hid (k + 2 = (ys ++ [((⟨#[97]⟩ : ByteArray), (2 : Int))] ++ [((⟨#[97]⟩ : ByteArray), (2 : Int))]).length) := Lib.hid (by rw [List.length_append, List.length_append]; have := HKY.out; simp; omega)
          clear hown9 hg9 hf9 hnb
          go_wp2_with fail
          go_ret
          exact ⟨HG9.out, _, g9, k + 2, q9, q + 1, rfl, HL9.out, by omega, hnc9, hcm9, HS9.out, owns_symL HL9.out HO9.out, by omega, HR9.out, by omega⟩
      · have e1 : ((x : Int) == 0) = false := beq_false_of_ne (by omega)
        have e2 : ((x : Int) == 1) = false := beq_false_of_ne (by omega)
        go_wp2_with fail
        go_ret
        exact ⟨HG5.out, ys, g, k, vc, q + 1, rfl, HKY.out, by omega, hnc, hcm, HSM.out, owns_symL HKY.out HOWN5.out, by omega, HR5.out, by omega⟩

/-- A signature is drawn. -/
def DrY (w : World) (e : Ending) (w' : World) : Prop :=
  Below w.heap.size w w' ∧ ∃ (ys : List (ByteArray × Int)) (g n c : Nat), e = .returned (.slice (some ⟨g, 0, none⟩) n c) ∧ n = ys.length ∧ n ≤ 60 ∧ n ≤ c ∧ c ≤ 9223372036854775807 ∧ SySmall ys ∧ SymL w' g ys
/-- .. and a text. -/
def DrYS (w : World) (e : Ending) (w' : World) : Prop :=
  Below w.heap.size w w' ∧ ∃ (ys : List (ByteArray × Int)) (g n c : Nat) (s : ByteArray), e = .returned (.tuple #[.slice (some ⟨g, 0, none⟩) n c, .string s]) ∧ n = ys.length ∧ n ≤ 60 ∧ n ≤ c ∧ c ≤ 9223372036854775807 ∧ SySmall ys ∧ SymL w' g ys ∧ s.size ≤ 2000

set_option maxRecDepth 100000 in
set_option maxHeartbeats 1000000 in
theorem dSign_any (bs : List Nat) (a : Option Addr) (cap : Nat) (w : World) (hn : bs.length ≤ 9223372036854775807) (hcap : bs.length ≤ cap) (h8 : ∀ z ∈ bs, z ≤ 255) (hl : LiesB w a bs) :
    Calls Try.prog 46 #[.slice a bs.length cap] w (DrY w) := by
  have HO := Lib.hid (l6Open_any bs a cap w hn hcap h8 hl)
  clear h8 hl
  go_enter Try.func46, Try.ntmps46
  go_wp2_with fail
  refine HO.out.mono ?_
  rintro e w1 ⟨rfl, hb1, hr1⟩
  have HX := Lib.hid (l91Sign_any w.heap.size a cap (bs.take 2000) 0 w1 (by omega) hr1)
  have HB1 := Lib.hid hb1
  clear hb1 hr1
  go_wp2_with fail
  refine HX.out.mono ?_
  rintro e w3 ⟨hg3, ys, g, n, c, q, rfl, hny, hn60, hnc, hcm, hsm, htl, hge, hr3, hq⟩
  have HB3 := Lib.hid (below_over HB1.out hg3 (fun r e => by cases e; exact Nat.le_refl _))
  have HNY := Lib.hid hny
  clear hg3 hr3 hny
  go_wp2_with fail
  go_ret
  exact ⟨HB3.out, ys, g, n, c, rfl, HNY.out, hn60, hnc, hcm, hsm, htl⟩

set_option maxRecDepth 100000 in
set_option maxHeartbeats 1000000 in
theorem dOver_any (bs : List Nat) (a : Option Addr) (cap : Nat) (w : World) (hn : bs.length ≤ 9223372036854775807) (hcap : bs.length ≤ cap) (h8 : ∀ z ∈ bs, z ≤ 255) (hl : LiesB w a bs) :
    Calls Try.prog 40 #[.slice a bs.length cap] w (DrYS w) := by
  have HO := Lib.hid (l6Open_any bs a cap w hn hcap h8 hl)
  clear h8 hl
  go_enter Try.func40, Try.ntmps40
  go_wp2_with fail
  refine HO.out.mono ?_
  rintro e w1 ⟨rfl, hb1, hr1⟩
  have HX := Lib.hid (l91Sign_any w.heap.size a cap (bs.take 2000) 0 w1 (by omega) hr1)
  have HB1 := Lib.hid hb1
  have hRw1 := hr1.cells.2.2.2
  clear hb1 hr1
  go_wp2_with fail
  refine HX.out.mono ?_
  rintro e w3 ⟨hg3, ys, g, n, c, q, rfl, hny, hn60, hnc, hcm, hsm, htl, hge, hr3, hq⟩
  have HB3 := Lib.hid (below_over HB1.out hg3 (fun r e => by cases e; exact Nat.le_refl _))
  have HNY := Lib.hid hny
  have HTL := Lib.hid htl
  have HT := Lib.hid (l91Text_any w.heap.size a cap (bs.take 2000) 2 q w3 (by decide) (by omega) hr3)
  clear hg3 hr3 hny htl
  go_wp2_with fail
  refine HT.out.mono ?_
  rintro e w4 ⟨hg4, s, q4, rfl, hss, hr4, hq4⟩
  have HB4 := Lib.hid (below_over HB3.out hg4 (fun r e => by cases e; exact Nat.le_refl _))
  have HT4 := Lib.hid (HTL.out.moved hg4 (by omega))
  clear hg4 hr4
  go_wp2_with fail
  go_ret2
  exact ⟨HB4.out, ys, g, n, c, s, rfl, HNY.out, hn60, hnc, hcm, hsm, HT4.out, hss⟩

/-! ### What they say -/
theorem signOk_take {ys : List (ByteArray × Int)} (h : SignOk ys) (m : Nat) : SignOk (ys.take m) := by
  obtain ⟨h1, h2⟩ := h
  refine ⟨by rw [List.length_take]; omega, fun i hi _ => ?_⟩
  have hi2 : i < ys.length := by rw [List.length_take] at hi; omega
  obtain ⟨a1, a2⟩ := h2 i hi2 hi2
  refine ⟨by rw [List.getElem_take]; exact a1, fun j hj => ?_⟩
  rw [List.getElem_take, List.getElem_take]
  exact a2 j hj

theorem mem_preL {ks : List T} {y : UInt8 × Nat} : y ∈ T.preL ks ↔ ∃ k ∈ ks, y ∈ k.pre := by
  induction ks with
  | nil => simp [T.preL]
  | cons k ks ih => rw [T.preL, List.mem_append, ih]; simp

mutual
theorem mirror_pre : ∀ (t : T) (y : UInt8 × Nat), y ∈ t.mirror.pre → y ∈ t.pre
  | .leaf, y, h => by simpa [T.mirror] using h
  | .node c ks, y, h => by
    rw [T.mirror, T.pre, mirrorL_eq] at h
    rw [T.pre]
    rcases List.mem_cons.1 h with h | h
    · rw [h]; simp
    · refine List.mem_cons_of_mem _ (mirL_pre ks y ?_)
      obtain ⟨k, hk, hy⟩ := mem_preL.1 h
      simp only [List.mem_reverse, List.mem_map] at hk
      obtain ⟨k', hk', rfl⟩ := hk
      exact ⟨k', hk', hy⟩
theorem mirL_pre : ∀ (ks : List T) (y : UInt8 × Nat), (∃ k ∈ ks, y ∈ k.mirror.pre) → y ∈ T.preL ks
  | [], y, h => by obtain ⟨k, hk, _⟩ := h; simp at hk
  | k :: ks, y, h => by
    obtain ⟨k', hk, hy⟩ := h
    rw [T.preL, List.mem_append]
    rcases List.mem_cons.1 hk with e | e
    · exact .inl (mirror_pre k y (by rw [← e]; exact hy))
    · exact .inr (mirL_pre ks y ⟨k', e, hy⟩)
end

mutual
theorem cut_pre : ∀ (t : T) (k : Nat) (r p : T) (a : Nat), t.cutAt k = some (r, p, a) → (∀ y ∈ p.pre, y ∈ t.pre) ∧ p.leaves ≤ t.leaves ∧ p.nodes ≤ t.nodes
  | .leaf, k, r, p, a, h => by rw [T.cutAt] at h; cases h
  | .node c ks, k, r, p, a, h => by
    rw [T.cutAt] at h
    split at h
    · cases h
      exact ⟨fun y hy => hy, Nat.le_refl _, Nat.le_refl _⟩
    · split at h
      · cases h
      · rename_i rs p' a' he
        cases h
        obtain ⟨h1, h2, h3⟩ := cutL_pre ks _ _ _ _ he
        exact ⟨fun y hy => by rw [T.pre]; exact List.mem_cons_of_mem _ (h1 y hy), by rw [T.leaves]; exact h2, by rw [T.nodes]; omega⟩
theorem cutL_pre : ∀ (ks : List T) (k : Nat) (rs : List T) (p : T) (a : Nat), T.cutL ks k = some (rs, p, a) → (∀ y ∈ p.pre, y ∈ T.preL ks) ∧ p.leaves ≤ T.leavesL ks ∧ p.nodes ≤ T.nodesL ks
  | [], k, rs, p, a, h => by rw [T.cutL] at h; cases h
  | t :: ts, k, rs, p, a, h => by
    rw [T.cutL] at h
    rw [T.leavesL, T.nodesL]
    split at h
    · rename_i r' p' a' he
      cases h
      obtain ⟨h1, h2, h3⟩ := cut_pre t k _ _ _ he
      exact ⟨fun y hy => by rw [T.preL]; exact List.mem_append_left _ (h1 y hy), by omega, by omega⟩
    · split at h
      · cases h
      · rename_i rs' p' a' he
        cases h
        obtain ⟨h1, h2, h3⟩ := cutL_pre ts _ _ _ _ he
        exact ⟨fun y hy => by rw [T.preL]; exact List.mem_append_right _ (h1 y hy), by omega, by omega⟩
end

/-- What FnOver asks of a tree over a signature. -/
theorem over_told {D : DataW Unit} {s : ByteArray} {t : T} (ht : parse s.data.toList = some t) (ho : overD D t) :
    (∃ m : ByteArray, (⟨(mirrorOf (parse s.data.toList)).toArray⟩ : ByteArray) = m ∧ m.size ≤ 100000 ∧ ∃ u, parse m.data.toList = some u ∧ overD D u) ∧
    ∀ k, k < t.nodes → ∃ x : ByteArray, partV (cutOf s.data.toList (k : Int)) = .tuple #[.string x, .bool true] ∧ x.size ≤ 100000 ∧ ∃ u, parse x.data.toList = some u ∧ overD D u := by
  obtain ⟨hw, _, hl, hn⟩ := parse_some ht
  have hms := mirror_size t
  constructor
  · refine ⟨_, rfl, ?_, t.mirror, ?_, fun y hy => ho y (mirror_pre t y hy)⟩
    · rw [ht]
      have := text_length t.mirror
      change t.mirror.text.toArray.size ≤ 100000
      simp only [List.size_toArray]
      omega
    · rw [ht]
      exact parse_text (mirror_wf _ hw) (by omega) (by omega)
  · intro k hk
    obtain ⟨r, p, a, hc⟩ := cutAt_some t k hk
    obtain ⟨h1, h2, h3⟩ := cut_pre t k r p a hc
    have hpw := (cutAt_wf t k r p a hw hc).2.1
    refine ⟨⟨p.text.toArray⟩, by rw [cutOf_nat ht, hc]; rfl, ?_, p, parse_text hpw (by omega) (by omega), fun y hy => ho y (h1 y hy)⟩
    have := text_length p
    change p.text.toArray.size ≤ 100000
    simp only [List.size_toArray]
    omega

theorem Ans.isY {v v' : Value} {w w' : World} {e : Ending} (h : Ans v w e w') (hv : v = v') : Ans v' w e w' := by rw [← hv]; exact h

set_option maxRecDepth 100000 in
set_option maxHeartbeats 2000000 in
theorem pSign_any (bs : List Nat) (a : Option Addr) (cap : Nat) (w : World) (hl : LiesB w a bs) (h8 : ∀ z ∈ bs, z ≤ 255) (hn : bs.length ≤ 9223372036854775807) (hcap : bs.length ≤ cap) :
    Calls Try.prog 12 #[.slice a bs.length cap] w (Ans (.bool true) w) := by
  by_cases h : bs.length ≤ 1048576
  · have HD := Lib.hid (dSign_any bs a cap w hn hcap h8 hl)
    clear h8 hl
    go_enter Try.func12, Try.ntmps12
    go_wp2_with fail
    refine HD.out.mono ?_
    rintro e w1 ⟨hB1, ys, g, n, c, rfl, hny, hn60, hnc, hcm, hsm, htl⟩
    have HB1 := Lib.hid hB1
    have A1_1 := Lib.hid (Below.refl w1.heap.size w1)
    have HL := Lib.hid htl
    have HNY := Lib.hid hny
    have HSZ := Lib.hid hsm.sizes.1
    have HAR := Lib.hid hsm.sizes.2
    clear hB1 htl hny hsm
    by_cases hs : SignOk ys
    · have HOK := Lib.hid hs
      clear hs
      go_wp2_with fail
      refine (iSignValid_any ys n HNY.out g c w1 (by omega) HSZ.out HAR.out (HL.out.below A1_1.out)).mono ?_
      rintro e w2 ⟨hB, b, rfl, hb⟩
      have A1_2 := Lib.hid (below_step A1_1.out hB)
      have HB2 := Lib.hid (below_step HB1.out hB)
      have hbt : b = true := hb.2 HOK.out
      subst hbt
      clear hb
      clear hB
      go_wp2_with fail
      refine (sSignValid_any ys n HNY.out g c w2 (by omega) HSZ.out (HL.out.below A1_2.out)).mono ?_
      rintro e w3 ⟨hB, b, rfl, hb⟩
      have A1_3 := Lib.hid (below_step A1_2.out hB)
      have HB3 := Lib.hid (below_step HB2.out hB)
      have hbt : b = true := hb.2 HOK.out
      subst hbt
      clear hb
      clear hB
      have HST : Hid (SignOk ys ∧ ∃ t, parse (⟨#[42]⟩ : ByteArray).data.toList = some t ∧ overD (signD ys) t) := Lib.hid ⟨HOK.out, .leaf, parse_text (t := .leaf) (by simp [T.wf]) (by simp [T.leaves]) (by simp [T.nodes]), fun y hy => by simp [T.pre] at hy⟩
      go_wp2_with fail
      refine (iSignOver_any ys n HNY.out g c ⟨#[42]⟩ w3 (by decide) (by omega) HSZ.out HAR.out (HL.out.below A1_3.out)).mono ?_
      rintro e w4 ⟨hB, b, rfl, hb⟩
      have A1_4 := Lib.hid (below_step A1_3.out hB)
      have HB4 := Lib.hid (below_step HB3.out hB)
      have hbt : b = true := hb.2 HST.out
      subst hbt
      clear hb
      clear hB
      by_cases hn0 : n = 0
      · have e0 : ((n : Int) == 0) = true := by simp [hn0]
        have e1 : (n == 0) = true := by simp [hn0]
        clear hn0
        go_wp2_with fail
        go_ret
        exact ⟨rfl, HB4.out⟩
      · have e0 : ((n : Int) == 0) = false := beq_false_of_ne (by omega)
        have e1 : (n == 0) = false := by simpa using hn0
        obtain ⟨n', hn'⟩ : ∃ n', n' + 1 = n := ⟨n - 1, by omega⟩
        have hwm : IntKind.i64.wrap ((n : Int) - 1) = (n' : Int) := by rw [IntKind.wrap_i64]; omega
        have hnn0 : (0 : Int) ≤ (n' : Int) := by omega
        have hnc1 : (n' : Int) ≤ (c : Int) := by omega
        have hnc2 : n' ≤ c := by omega
        have HNT : Hid (n' = (ys.take n').length) := Lib.hid (by rw [List.length_take]; have := HNY.out; omega)
        have HZT : Hid (∀ j (h : j < (ys.take n').length), ((ys.take n')[j]).1.size ≤ 1048576) := Lib.hid (fun j hj => by rw [List.getElem_take]; exact HSZ.out j _)
        have HAT : Hid (Arities (ys.take n')) := Lib.hid (fun j hj => by rw [List.getElem_take]; exact HAR.out j _)
        have HLT : Hid (∀ W : World, SymL W g ys → SymL W g (ys.take n')) := Lib.hid (fun W h j hj => by rw [List.getElem_take]; exact h j _)
        have hn60' : n' ≤ 60 := by omega
        clear hn0 hn'
        go_wp2_with fail
        refine (iSignValid_any (ys.take n') n' HNT.out g c w4 (by omega) HZT.out HAT.out (HLT.out _ (HL.out.below A1_4.out))).mono ?_
        rintro e w5 ⟨hB, b, rfl, hb⟩
        have A1_5 := Lib.hid (below_step A1_4.out hB)
        have HB5 := Lib.hid (below_step HB4.out hB)
        have hbt : b = true := hb.2 (signOk_take HOK.out n')
        subst hbt
        clear hb
        clear hB
        go_wp2_with fail
        go_ret
        exact ⟨rfl, HB5.out⟩
    · have HOK := Lib.hid hs
      clear hs
      go_wp2_with fail
      refine (iSignValid_any ys n HNY.out g c w1 (by omega) HSZ.out HAR.out (HL.out.below A1_1.out)).mono ?_
      rintro e w2 ⟨hB, b, rfl, hb⟩
      have A1_2 := Lib.hid (below_step A1_1.out hB)
      have HB2 := Lib.hid (below_step HB1.out hB)
      have hbt : b = false := by cases b; rfl; exact absurd (hb.1 rfl) HOK.out
      subst hbt
      clear hb
      clear hB
      go_wp2_with fail
      refine (sSignValid_any ys n HNY.out g c w2 (by omega) HSZ.out (HL.out.below A1_2.out)).mono ?_
      rintro e w3 ⟨hB, b, rfl, hb⟩
      have A1_3 := Lib.hid (below_step A1_2.out hB)
      have HB3 := Lib.hid (below_step HB2.out hB)
      have hbt : b = false := by cases b; rfl; exact absurd (hb.1 rfl) HOK.out
      subst hbt
      clear hb
      clear hB
      go_wp2_with fail
      go_ret
      exact ⟨rfl, HB3.out⟩
  · clear hl h8
    go_enter Try.func12, Try.ntmps12
    go_wp2_with fail
    go_ret
    exact ⟨rfl, Below.refl _ _⟩

set_option maxRecDepth 100000 in
set_option maxHeartbeats 2000000 in
theorem pOver_any (bs : List Nat) (a : Option Addr) (cap : Nat) (w : World) (hl : LiesB w a bs) (h8 : ∀ z ∈ bs, z ≤ 255) (hn : bs.length ≤ 9223372036854775807) (hcap : bs.length ≤ cap) :
    Calls Try.prog 11 #[.slice a bs.length cap] w (Ans (.bool true) w) := by
  by_cases h : bs.length ≤ 1048576
  · have HD := Lib.hid (dOver_any bs a cap w hn hcap h8 hl)
    clear h8 hl
    go_enter Try.func11, Try.ntmps11
    go_wp2_with fail
    refine HD.out.mono ?_
    rintro e w1 ⟨hB1, ys, g, n, c, s, rfl, hny, hn60, hnc, hcm, hsm, htl, hss⟩
    have HB1 := Lib.hid hB1
    have A1_1 := Lib.hid (Below.refl w1.heap.size w1)
    have HL := Lib.hid htl
    have HNY := Lib.hid hny
    have HSZ := Lib.hid hsm.sizes.1
    have HAR := Lib.hid hsm.sizes.2
    clear hB1 htl hny hsm
    by_cases hs : SignOk ys ∧ ∃ t, parse s.data.toList = some t ∧ overD (signD ys) t
    · have HOK := Lib.hid hs
      obtain ⟨hok, t, ht, ho⟩ := hs
      obtain ⟨⟨m, hm, hmsz, u, hu, huo⟩, hparts⟩ := over_told ht ho
      have hn16 := (parse_some ht).2.2.2
      obtain ⟨N, hN⟩ : ∃ N, N = t.nodes := ⟨_, rfl⟩
      have HM : Hid (Value.tuple #[.string ⟨(mirrorOf (parse s.data.toList)).toArray⟩, .bool (parse s.data.toList).isSome] = .tuple #[.string m, .bool true]) := Lib.hid (by rw [hm, ht]; rfl)
      have HND : Hid (Value.int .i64 (nodesOf (parse s.data.toList)) = .int .i64 N) := Lib.hid (by rw [ht, hN]; rfl)
      have HPT : Hid (∀ k, k < N → ∃ x : ByteArray, partV (cutOf s.data.toList (k : Int)) = .tuple #[.string x, .bool true] ∧ x.size ≤ 100000 ∧ SignOk ys ∧ ∃ u, parse x.data.toList = some u ∧ overD (signD ys) u) := Lib.hid (fun k hk => by obtain ⟨x, h1, h2, h3⟩ := hparts k (by omega); exact ⟨x, h1, h2, hok, h3⟩)
      have HMO : Hid (SignOk ys ∧ ∃ t, parse m.data.toList = some t ∧ overD (signD ys) t) := Lib.hid ⟨hok, u, hu, huo⟩
      rw [← hN] at hn16
      clear hok ht ho hm hu huo hparts hN
      go_wp2_with fail
      refine (iSignOver_any ys n HNY.out g c s w1 (by omega) (by omega) HSZ.out HAR.out (HL.out.below A1_1.out)).mono ?_
      rintro e w2 ⟨hB, b, rfl, hb⟩
      have A1_2 := Lib.hid (below_step A1_1.out hB)
      have HB2 := Lib.hid (below_step HB1.out hB)
      have hbt : b = true := hb.2 HOK.out
      subst hbt
      clear hb
      clear hB
      go_wp2_with fail
      refine (sSignOver_any ys n HNY.out g c s w2 (by omega) (by omega) HSZ.out HAR.out (HL.out.below A1_2.out)).mono ?_
      rintro e w3 ⟨hB, b, rfl, hb⟩
      have A1_3 := Lib.hid (below_step A1_2.out hB)
      have HB3 := Lib.hid (below_step HB2.out hB)
      have hbt : b = true := hb.2 HOK.out
      subst hbt
      clear hb
      clear hB
      go_wp2_with fail
      refine ((iMirror_any s w3 (by omega)).mono fun _ _ h => Ans.isY h HM.out).mono ?_
      rintro e w4 ⟨rfl, hB⟩
      have A1_4 := Lib.hid (below_step A1_3.out hB)
      have HB4 := Lib.hid (below_step HB3.out hB)
      clear hB
      go_wp2_with fail
      go_loopw [9] (fun iv wr => ∃ k : Nat, k ≤ N ∧ iv = .int .i64 k ∧ Below w4.heap.size w4 wr) (fun iv _ => N - (intOf iv).toNat)
      case atStart => exact ⟨0, by omega, rfl, Below.refl _ _⟩
      case round =>
        obtain ⟨k, hk, rfl, hB⟩ := hrel
        have HBR := Lib.hid hB
        have HNO := Lib.hid ((iNodes_any s wr (by omega)).mono fun _ _ h => Ans.isY h HND.out)
        clear hB
        by_cases hlt : k < N
        · obtain ⟨x, hx, hxs, hxo⟩ := HPT.out k hlt
          have HX := Lib.hid hx
          have HXO := Lib.hid hxo
          clear hx hxo
          go_wp2_with fail
          refine HNO.out.mono ?_
          rintro e u1 ⟨rfl, hB⟩
          have U1 := Lib.hid (below_step HBR.out hB)
          clear hB
          go_wp2_with fail
          refine ((iPart_any s (k : Int) u1 (by omega) (by omega)).mono fun _ _ h => Ans.isY h HX.out).mono ?_
          rintro e u2 ⟨rfl, hB⟩
          have U2 := Lib.hid (below_step U1.out hB)
          clear hB
          go_wp2_with fail
          refine (iSignOver_any ys n HNY.out g c x u2 (by omega) (by omega) HSZ.out HAR.out (HL.out.below (below_step A1_4.out U2.out))).mono ?_
          rintro e u3 ⟨hB, b, rfl, hb⟩
          have hbt : b = true := hb.2 HXO.out
          subst hbt
          have U3 := Lib.hid (below_step U2.out hB)
          clear hB hb
          go_wp2_with fail
          go_roundw
          case rel => exact ⟨k + 1, by omega, by go_num, U3.out⟩
          case measure => simp [intOf]; omega
        · have hkn : k = N := by omega
          subst hkn
          go_wp2_with fail
          refine HNO.out.mono ?_
          rintro e u1 ⟨rfl, hB⟩
          have U1 := Lib.hid (below_step HBR.out hB)
          clear hB
          go_wp2_with fail
          refine (iSignOver_any ys n HNY.out g c m u1 (by omega) (by omega) HSZ.out HAR.out (HL.out.below (below_step A1_4.out U1.out))).mono ?_
          rintro e u2 ⟨hB, b, rfl, hb⟩
          have hbt : b = true := hb.2 HMO.out
          subst hbt
          clear hb
          go_wp2_with fail
          go_ret
          exact ⟨rfl, below_step (below_step HB4.out U1.out) hB⟩
    · have HOK := Lib.hid hs
      clear hs
      go_wp2_with fail
      refine (iSignOver_any ys n HNY.out g c s w1 (by omega) (by omega) HSZ.out HAR.out (HL.out.below A1_1.out)).mono ?_
      rintro e w2 ⟨hB, b, rfl, hb⟩
      have A1_2 := Lib.hid (below_step A1_1.out hB)
      have HB2 := Lib.hid (below_step HB1.out hB)
      have hbt : b = false := by cases b; rfl; exact absurd (hb.1 rfl) HOK.out
      subst hbt
      clear hb
      clear hB
      go_wp2_with fail
      refine (sSignOver_any ys n HNY.out g c s w2 (by omega) (by omega) HSZ.out HAR.out (HL.out.below A1_2.out)).mono ?_
      rintro e w3 ⟨hB, b, rfl, hb⟩
      have A1_3 := Lib.hid (below_step A1_2.out hB)
      have HB3 := Lib.hid (below_step HB2.out hB)
      have hbt : b = false := by cases b; rfl; exact absurd (hb.1 rfl) HOK.out
      subst hbt
      clear hb
      clear hB
      go_wp2_with fail
      go_ret
      exact ⟨rfl, HB3.out⟩
  · clear hl h8
    go_enter Try.func11, Try.ntmps11
    go_wp2_with fail
    go_ret
    exact ⟨rfl, Below.refl _ _⟩

end Go.Proofs.Ytipodlckehodnaa
