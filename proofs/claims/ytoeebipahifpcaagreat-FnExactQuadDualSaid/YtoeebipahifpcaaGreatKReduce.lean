/- Merged out of: XKRedM, XQReduce, XQSums. -/
import Derived.Test.YtoeebipahifpcaaGreatInts
import Derived.Test.YtoeebipahifpcaaGreatKQuadT
import Derived.Test.YtoeebipahifpcaaGreatKSumA
import Derived.Test.YtoeebipahifpcaaGreatKSerM
import Derived.Test.YtoeebipahifpcaaGreatRulM
import Derived.Test.YtoeebipahifpcaaGreatKQuadD
import Derived.Test.YtoeebipahifpcaaGreatKQSpan
import Derived.Laws.MakeOwn
import Derived.Laws.OwnMore
import Derived.Test.YtoeebipahifpcaaGreatKBndX
section
/- Merged out of: XQLess, XRedM, XTurned. -/
section
/- A row less a multiple of another one, by the model. -/
namespace Go.Proofs.YtoeebipahifpcaaGreat
open Go.RowKit

/-- What is left of a row. -/
def lessV (f : Nat → Int) (z : Int) (g : Nat → Int) (j : Nat) : Int := (f j - z * g j) % 101

theorem numVals_next {k : Nat} {f : Nat → Int} {q : Int} (h : f k = q) : numVals k f ++ [.int .i64 q] = numVals (k + 1) f := by
  unfold numVals
  rw [List.range_succ, List.map_append, ← h]
  rfl

set_option maxRecDepth 100000 in
set_option maxHeartbeats 2000000 in
theorem l6qLess_any (L : Nat) (f g : Nat → Int) (z : Int) (a b : Option Addr) (ca cb : Nat) (w : World) (hL : L ≤ 1000) (hz : -100 ≤ z ∧ z ≤ 100) (hf : ∀ j, j < L → 0 ≤ f j ∧ f j ≤ 100) (hg : ∀ j, j < L → 0 ≤ g j ∧ g j ≤ 100) (ha : NumO w a L f) (hb : NumO w b L g) :
    Calls Tryz.prog 47 #[.slice a L ca, .int .i64 z, .slice b L cb] w (NumNew L (lessV f z g) w) := by
  obtain ⟨i0, hi0, hz0, hzs, hzb⟩ := info_parts infoNum
  have HA := Lib.hid ha
  have HB := Lib.hid hb
  have HF := Lib.hid hf
  have HG := Lib.hid hg
  have hR0 : (w.alloc (.cells #[] 3)).ownsRow w.heap.size 3 1 (.slice (some ⟨w.heap.size, 0, none⟩) 0 0) 0 (numVals 0 (lessV f z g)) := World.ownsRow_made w #[] 0 (Nat.le_refl _) (by simp [maxLen]) rfl
  have HR0 := Lib.hid hR0
  clear ha hb hf hg hR0
  go_enter Tryz.func47, Tryz.ntmps47
  go_wp2_with fail
  go_loopw [7, 8] (fun ov iv wr => ∃ k q c : Nat, k ≤ L ∧ iv = .int .i64 k ∧ ov = .slice (some ⟨q, 0, none⟩) k c ∧ wr.ownsRow w.heap.size 3 1 (.slice (some ⟨q, 0, none⟩) k c) k (numVals k (lessV f z g)) ∧ Below w.heap.size w wr) (fun _ iv _ => L - (intOf iv).toNat)
  case atStart => exact ⟨0, w.heap.size, 0, Nat.zero_le _, rfl, rfl, HR0.out, (Below.refl _ _).alloc (Nat.le_refl _) _⟩
  case round =>
    obtain ⟨k, gx, c, hk, rfl, rfl, hown, hB⟩ := hrel
    have HO := Lib.hid hown
    have HBB := Lib.hid hB
    by_cases hlt : k < L
    · obtain ⟨ba, oa, ea, c1⟩ := HA.out.below hB k hlt
      obtain ⟨bb, ob, eb, c2⟩ := HB.out.below hB k hlt
      subst ea eb
      have hx := HF.out k hlt
      have hy := HG.out k hlt
      obtain ⟨x, hxe⟩ : ∃ x, x = f k := ⟨_, rfl⟩
      obtain ⟨y, hye⟩ : ∃ y, y = g k := ⟨_, rfl⟩
      have HXY : Hid (lessV f z g k = (x - z * y) % 101) := Lib.hid (by rw [lessV, hxe, hye])
      rw [← hxe] at c1 hx
      rw [← hye] at c2 hy
      have hp : -10000 ≤ z * y ∧ z * y ≤ 10000 := by
        have h1 : (z * y).natAbs ≤ 100 * 100 := by
          rw [Int.natAbs_mul]
          exact Nat.mul_le_mul (by omega) (by omega)
        omega
      have hw1 : IntKind.i64.wrap (z * y) = z * y := by rw [IntKind.wrap_i64]; omega
      have hw2 : IntKind.i64.wrap (x - z * y) = x - z * y := by rw [IntKind.wrap_i64]; omega
      have HM := Lib.hid (fun W : World => l3Mod_any (x - z * y) W (by omega) (by omega))
      have k0 : (0 : Int) ≤ k := by omega
      have kL : (k : Int) < L := by omega
      have hsw := hB.size
      have hba : ba < w.heap.size := by
        obtain ⟨b', o', e, hc⟩ := HA.out k hlt
        simp only [Option.some.injEq, Addr.mk.injEq] at e
        obtain ⟨rfl, _, _⟩ := e
        exact World.block_lt_of_cell? _ _ hc
      have hbb : bb < w.heap.size := by
        obtain ⟨b', o', e, hc⟩ := HB.out k hlt
        simp only [Option.some.injEq, Addr.mk.injEq] at e
        obtain ⟨rfl, _, _⟩ := e
        exact World.block_lt_of_cell? _ _ hc
      clear hown hB hxe hye hx hy hp
      go_wp2_with fail
      refine wp_region_held_drew (S := (fun w' => w'.cell? ⟨ba, oa + k, none⟩ = some (.int .i64 x) ∧ w'.cell? ⟨bb, ob + k, none⟩ = some (.int .i64 y))) (by kernel_rfl) (by exact ⟨c1, c2⟩) (fun hHeld => ?_)
      refine wpAnyH_take (i := 0) (oi := { dst := some 16, op := Op.move (Operand.tmp 7), type := 48, pos := "l6_duals.go:70", after := #[], guard := none }) (v := ?_) rfl (by kernel_rfl) (by kernel_rfl) (by kernel_rfl) (fun _ _ _ h => h) (Or.inl ⟨by rfl, ?_⟩) (by assumption) ?_
      rotate_left
      · (intro w hSw; (try dsimp only at hSw); go_simp <;> with_reducible rfl)
      (try simp only [Act.put, List.setIfInBounds_toArray, List.set_cons_zero, List.set_cons_succ])
      refine wpAnyH_take (i := 1) (oi := { dst := some 17, op := Op.move (Operand.tmp 0), type := 48, pos := "l6_duals.go:70", after := #[], guard := none }) (v := ?_) rfl (by kernel_rfl) (by kernel_rfl) (by kernel_rfl) (fun _ _ _ h => h) (Or.inl ⟨by rfl, ?_⟩) (by assumption) ?_
      rotate_left
      · (intro w hSw; (try dsimp only at hSw); go_simp <;> with_reducible rfl)
      (try simp only [Act.put, List.setIfInBounds_toArray, List.set_cons_zero, List.set_cons_succ])
      refine wpAnyH_take (i := 2) (oi := { dst := some 18, op := Op.move (Operand.tmp 8), type := 3, pos := "l6_duals.go:70", after := #[], guard := none }) (v := ?_) rfl (by kernel_rfl) (by kernel_rfl) (by kernel_rfl) (fun _ _ _ h => h) (Or.inl ⟨by rfl, ?_⟩) (by assumption) ?_
      rotate_left
      · (intro w hSw; (try dsimp only at hSw); go_simp <;> with_reducible rfl)
      (try simp only [Act.put, List.setIfInBounds_toArray, List.set_cons_zero, List.set_cons_succ])
      refine wpAnyH_take (i := 3) (oi := { dst := some 19, op := Op.indexAddr 48 (Operand.tmp 17) (Operand.tmp 18), type := 0, pos := "l6_duals.go:70", after := #[{ on := 1, ground := Ground.data }, { on := 2, ground := Ground.data }], guard := none }) (v := ?_) rfl (by kernel_rfl) (by kernel_rfl) (by kernel_rfl) (fun _ _ _ h => h) (Or.inl ⟨by rfl, ?_⟩) (by assumption) ?_
      rotate_left
      · (intro w hSw; (try dsimp only at hSw); go_simp <;> with_reducible rfl)
      (try simp only [Act.put, List.setIfInBounds_toArray, List.set_cons_zero, List.set_cons_succ])
      refine wpAnyH_take (i := 4) (oi := { dst := some 20, op := Op.load 3 (Operand.tmp 19), type := 3, pos := "l6_duals.go:70", after := #[{ on := 3, ground := Ground.data }], guard := none }) (v := ?_) rfl (by kernel_rfl) (by kernel_rfl) (by kernel_rfl) (fun _ _ _ h => h) (Or.inl ⟨by rfl, ?_⟩) (by assumption) ?_
      rotate_left
      · (intro w hSw; (try dsimp only at hSw); go_simp <;> with_reducible rfl)
      (try simp only [Act.put, List.setIfInBounds_toArray, List.set_cons_zero, List.set_cons_succ])
      refine wpAnyH_take (i := 5) (oi := { dst := some 21, op := Op.move (Operand.tmp 1), type := 3, pos := "l6_duals.go:70", after := #[], guard := none }) (v := ?_) rfl (by kernel_rfl) (by kernel_rfl) (by kernel_rfl) (fun _ _ _ h => h) (Or.inl ⟨by rfl, ?_⟩) (by assumption) ?_
      rotate_left
      · (intro w hSw; (try dsimp only at hSw); go_simp <;> with_reducible rfl)
      (try simp only [Act.put, List.setIfInBounds_toArray, List.set_cons_zero, List.set_cons_succ])
      refine wpAnyH_take (i := 6) (oi := { dst := some 22, op := Op.move (Operand.tmp 2), type := 48, pos := "l6_duals.go:70", after := #[], guard := none }) (v := ?_) rfl (by kernel_rfl) (by kernel_rfl) (by kernel_rfl) (fun _ _ _ h => h) (Or.inl ⟨by rfl, ?_⟩) (by assumption) ?_
      rotate_left
      · (intro w hSw; (try dsimp only at hSw); go_simp <;> with_reducible rfl)
      (try simp only [Act.put, List.setIfInBounds_toArray, List.set_cons_zero, List.set_cons_succ])
      refine wpAnyH_take (i := 7) (oi := { dst := some 23, op := Op.move (Operand.tmp 8), type := 3, pos := "l6_duals.go:70", after := #[], guard := none }) (v := ?_) rfl (by kernel_rfl) (by kernel_rfl) (by kernel_rfl) (fun _ _ _ h => h) (Or.inl ⟨by rfl, ?_⟩) (by assumption) ?_
      rotate_left
      · (intro w hSw; (try dsimp only at hSw); go_simp <;> with_reducible rfl)
      (try simp only [Act.put, List.setIfInBounds_toArray, List.set_cons_zero, List.set_cons_succ])
      refine wpAnyH_take (i := 8) (oi := { dst := some 24, op := Op.indexAddr 48 (Operand.tmp 22) (Operand.tmp 23), type := 0, pos := "l6_duals.go:70", after := #[{ on := 6, ground := Ground.data }, { on := 7, ground := Ground.data }], guard := none }) (v := ?_) rfl (by kernel_rfl) (by kernel_rfl) (by kernel_rfl) (fun _ _ _ h => h) (Or.inl ⟨by rfl, ?_⟩) (by assumption) ?_
      rotate_left
      · (intro w hSw; (try dsimp only at hSw); go_simp <;> with_reducible rfl)
      (try simp only [Act.put, List.setIfInBounds_toArray, List.set_cons_zero, List.set_cons_succ])
      refine wpAnyH_take (i := 9) (oi := { dst := some 25, op := Op.load 3 (Operand.tmp 24), type := 3, pos := "l6_duals.go:70", after := #[{ on := 8, ground := Ground.data }], guard := none }) (v := ?_) rfl (by kernel_rfl) (by kernel_rfl) (by kernel_rfl) (fun _ _ _ h => h) (Or.inl ⟨by rfl, ?_⟩) (by assumption) ?_
      rotate_left
      · (intro w hSw; (try dsimp only at hSw); go_simp <;> with_reducible rfl)
      (try simp only [Act.put, List.setIfInBounds_toArray, List.set_cons_zero, List.set_cons_succ])
      refine wpAnyH_take (i := 10) (oi := { dst := some 26, op := Op.binOp BinOp.mul 3 (Operand.tmp 21) (Operand.tmp 25) 3, type := 3, pos := "l6_duals.go:70", after := #[{ on := 5, ground := Ground.data }, { on := 9, ground := Ground.data }], guard := none }) (v := ?_) rfl (by kernel_rfl) (by kernel_rfl) (by kernel_rfl) (fun _ _ _ h => h) (Or.inl ⟨by rfl, ?_⟩) (by assumption) ?_
      rotate_left
      · (intro w hSw; (try dsimp only at hSw); go_simp <;> with_reducible rfl)
      (try simp only [Act.put, List.setIfInBounds_toArray, List.set_cons_zero, List.set_cons_succ])
      refine wpAnyH_take (i := 11) (oi := { dst := some 27, op := Op.binOp BinOp.sub 3 (Operand.tmp 20) (Operand.tmp 26) 3, type := 3, pos := "l6_duals.go:70", after := #[{ on := 4, ground := Ground.data }, { on := 10, ground := Ground.data }], guard := none }) (v := ?_) rfl (by kernel_rfl) (by kernel_rfl) (by kernel_rfl) (fun _ _ _ h => h) (Or.inl ⟨by rfl, ?_⟩) (by assumption) ?_
      rotate_left
      · (intro w hSw; (try dsimp only at hSw); go_simp <;> with_reducible rfl)
      (try simp only [Act.put, List.setIfInBounds_toArray, List.set_cons_zero, List.set_cons_succ])
      refine wpAnyH_ready (rs := [12]) (by kernel_rfl) (by simp) ?_
      refine AllReadyH.cons (o := { dst := some 28, op := Op.call { callee := Callee.value (Operand.func 35), args := #[Operand.tmp 27], argTypes := #[3] }, type := 3, pos := "l6_duals.go:70", after := #[{ on := 11, ground := Ground.data }], guard := none }) rfl (fun K hK => ?_) AllReadyH.nil
      go_simp
      go_wp2_with fail
      refine (HM.out _).mono ?_
      rintro e w4 ⟨rfl, rfl⟩
      go_wp2_with fail
      refine hK.out _ _ ?_ (fun hHeld => ?_)
      · exact ⟨c1, c2⟩
      clear hK K
      (try simp only [Act.put, List.setIfInBounds_toArray, List.set_cons_zero, List.set_cons_succ])
      refine wpAnyH_ready (rs := [13]) (by kernel_rfl) (by simp) ?_
      refine AllReadyH.cons (o := { dst := some 29, op := Op.buildSlice 48 1 #[(0, Operand.tmp 28)], type := 48, pos := "l6_duals.go:70", after := #[{ on := 12, ground := Ground.data }], guard := none }) rfl (fun K hK => ?_) AllReadyH.nil
      go_simp
      go_wp2_with fail
      refine hK.out _ _ ?_ (fun hHeld => ?_)
      · exact ⟨keep1 ((Below.refl wr.drew.heap.size wr.drew).alloc (Nat.le_refl _) _) c1, keep1 ((Below.refl wr.drew.heap.size wr.drew).alloc (Nat.le_refl _) _) c2⟩
      clear hK K
      (try simp only [Act.put, List.setIfInBounds_toArray, List.set_cons_zero, List.set_cons_succ])
      refine wpAnyH_ready (rs := [14]) (by kernel_rfl) (by simp) ?_
      refine AllReadyH.cons (o := { dst := some 30, op := Op.call { callee := Callee.builtin Builtin.append, args := #[Operand.tmp 16, Operand.tmp 29], argTypes := #[48, 48] }, type := 48, pos := "l6_duals.go:70", after := #[{ on := 0, ground := Ground.data }, { on := 13, ground := Ground.data }, { on := 12, ground := Ground.chain }], guard := none }) rfl (fun K hK => ?_) AllReadyH.nil
      have OWN : wr.drew.ownsRow w.heap.size 3 1 (.slice (some ⟨gx, 0, none⟩) k c) k (numVals k (lessV f z g)) := HO.out
      refine step_append_any _ (by rfl) _ _ 48 (by rfl) w.heap.size 3 i0 (.int .i64 0) 1 8 Tryz.underlying48 hi0 hz0 hzs hzb rfl (by decide) (.slice (some ⟨gx, 0, none⟩) k c) k (numVals k (lessV f z g)) (by rfl) (World.ownsRow.alloc OWN (.cells #[.int .i64 ((x - z * y) % 101)] 3 (0, 0))) (by simp) ⟨wr.drew.heap.size, 0, none⟩ 1 1 [.int .i64 ((x - z * y) % 101)] (by rfl) (by rfl) (cells_one rfl _) (by simp [Value.oneCell']) (k + 1) (numVals (k + 1) (lessV f z g)) rfl (numVals_next HXY.out) (by unfold maxLen; omega) (by omega) (by simp; omega) ?_
      intro g9 q9 w9 hown9 hg9
      have hA9 : Below wr.heap.size wr (wr.alloc (.cells #[.int .i64 ((x - z * y) % 101)] 3 (0, 0))).drew := ((Below.refl _ _).alloc (Nat.le_refl _) _).drew
      have hgb := (OWN.lt gx rfl).1
      have hnb : ∀ b, b < w.heap.size → w9.heap[b]? = wr.heap[b]? := fun b hb => by rw [hg9.block b (by simp; omega) (fun e => by simp only [Value.ownBlock, Option.some.injEq] at e; omega), hA9.block b (by omega)]
      have HB9 : Hid (Below w.heap.size w w9) := Lib.hid ((below_step HBB.out hA9).grown hg9 (by simp; omega) (fun q e => by simp only [Value.ownBlock, Option.some.injEq] at e; omega))
      have HO9 := Lib.hid hown9
      refine hK.out _ _ ?_ (fun hHeld => ?_)
      · exact ⟨by rw [World.cell?_of_block (w := wr) (hnb ba hba)]; exact c1, by rw [World.cell?_of_block (w := wr) (hnb bb hbb)]; exact c2⟩
      clear hK K
      (try simp only [Act.put, List.setIfInBounds_toArray, List.set_cons_zero, List.set_cons_succ])
      refine wpAnyH_take (i := 15) (oi := { dst := some 7, op := Op.assign (Operand.tmp 30), type := 48, pos := "l6_duals.go:70", after := #[{ on := 14, ground := Ground.data }, { on := 14, ground := Ground.chain }, { on := 0, ground := Ground.phase }, { on := 1, ground := Ground.phase }, { on := 2, ground := Ground.phase }, { on := 3, ground := Ground.phase }, { on := 4, ground := Ground.phase }, { on := 5, ground := Ground.phase }, { on := 6, ground := Ground.phase }, { on := 7, ground := Ground.phase }, { on := 8, ground := Ground.phase }, { on := 9, ground := Ground.phase }, { on := 10, ground := Ground.phase }, { on := 11, ground := Ground.phase }, { on := 12, ground := Ground.phase }, { on := 13, ground := Ground.phase }, { on := 14, ground := Ground.phase }], guard := none }) (v := ?_) rfl (by kernel_rfl) (by kernel_rfl) (by kernel_rfl) (fun _ _ _ h => h) (Or.inl ⟨by rfl, ?_⟩) (by assumption) ?_
      rotate_left
      · (intro w hSw; (try dsimp only at hSw); go_simp <;> with_reducible rfl)
      (try simp only [Act.put, List.setIfInBounds_toArray, List.set_cons_zero, List.set_cons_succ])
      refine wpAnyH_done (by kernel_rfl) ?_ _
      go_wp2_with fail
      exact ⟨⟨k + 1, g9, q9, by omega, by go_num, rfl, HO9.out, HB9.out⟩, by simp [intOf]; omega⟩
    · have hkk : k = L := by omega
      have HN := Lib.hid (NumR.of_owns hown (f := lessV f z g) (fun j hj => numVals_get hj))
      clear hown
      subst hkk
      go_wp2_with fail
      go_ret
      exact ⟨HBB.out, gx, c, rfl, HN.out.2.1, HN.out.2.2, HN.out.1⟩

end Go.Proofs.YtoeebipahifpcaaGreat
end
section
/- Rows made to a base, column by column, as mathematics. No walk. -/
namespace Go.Proofs.YtoeebipahifpcaaGreat

/-- Where the reduction stands ahead of column c: s is a base with heads below c, the rest is 0 there, and both together have the span. -/
structure RedInv (n c : Nat) (R0 : (Nat → Int) → Prop) (s : Nat → Nat → Int) (rest : List (Nat → Int)) : Prop where
  base : Bs n s
  low : ∀ i, c ≤ i → ∀ j, s i j = 0
  span : ∀ v, Sp n (fun y => BsR n s y ∨ y ∈ rest) v ↔ Sp n R0 v
  zero : ∀ r ∈ rest, ∀ j, j < c → r j = 0
  rng : ∀ r ∈ rest, ∀ j, 0 ≤ r j ∧ r j ≤ 100

theorem RedInv.start {n : Nat} {rows : List (Nat → Int)} (h : ∀ r ∈ rows, ∀ j, 0 ≤ r j ∧ r j ≤ 100) : RedInv n 0 (· ∈ rows) (fun _ _ => 0) rows :=
  ⟨Bs.none n, fun _ _ _ => rfl, fun v => ⟨Sp.mono fun y hy => by
    rcases hy with ⟨i, _, rfl⟩ | hy
    · exact .zero fun _ _ => rfl
    · exact Sp.of hy, Sp.mono fun y hy => Sp.of (.inr hy)⟩, fun _ _ j hj => by omega, h⟩

/-- No row has a number at the column. -/
theorem RedInv.skip {n c : Nat} {R0 : (Nat → Int) → Prop} {s : Nat → Nat → Int} {rest : List (Nat → Int)} (h : RedInv n c R0 s rest) (hz : ∀ r ∈ rest, r c = 0) : RedInv n (c + 1) R0 s rest :=
  ⟨h.base, fun i hi => h.low i (by omega), h.span, fun r hr j hj => by
    by_cases e : j = c
    · subst e; exact hz r hr
    · exact h.zero r hr j (by omega), h.rng⟩

theorem lessV_rng (f : Nat → Int) (z : Int) (g : Nat → Int) (j : Nat) : 0 ≤ lessV f z g j ∧ lessV f z g j ≤ 100 := by unfold lessV; omega

/-- A row with a number at the column is taken out. -/
theorem RedInv.pivot {n c : Nat} {R0 : (Nat → Int) → Prop} {s : Nat → Nat → Int} {rest rest' : List (Nat → Int)} (h : RedInv n c R0 s rest) (hc : c < n) {r d : Nat → Int} {x : Nat} (hr : r ∈ rest) (hx : r c = x) (hx1 : 1 ≤ x) (hx2 : x ≤ 100)
    (hd : d = lessV (fun _ => 0) (0 - (inv101 x : Int)) r) (h1 : ∀ y ∈ rest', ∃ u ∈ rest, y = lessV u (u c) d) (h2 : ∀ u ∈ rest, u = r ∨ lessV u (u c) d ∈ rest') : RedInv n (c + 1) R0 (putB s c d) rest' := by
  have hm := inv101_mul x (by omega) (by omega)
  have hm' : ((x : Int) * (inv101 x : Int)) % 101 = 1 := by
    have : ((x * inv101 x % 101 : Nat) : Int) = 1 := by rw [hm]; rfl
    simpa using this
  have hdj : ∀ j, d j = ((inv101 x : Int) * r j) % 101 := fun j => by
    rw [hd]
    unfold lessV
    rw [show (0 : Int) - (0 - (inv101 x : Int)) * r j = (inv101 x : Int) * r j by rw [Int.zero_sub, Int.zero_sub, Int.neg_mul]; omega]
  have hdr : ∀ j, 0 ≤ d j ∧ d j ≤ 100 := fun j => by rw [hdj]; omega
  have hdc : d c = 1 := by rw [hdj, hx, Int.mul_comm]; exact hm'
  have hdl : ∀ j, j < c → d j = 0 := fun j hj => by rw [hdj, h.zero r hr j hj, Int.mul_zero]; rfl
  have hh : ∀ i, s i i = 1 → d i = 0 := fun i hi => by
    refine hdl i ?_
    rcases Nat.lt_or_ge i c with hic | hic
    · exact hic
    · rw [h.low i hic i] at hi; cases hi
  have hb := h.base.put hc hdr hdc hdl hh
  have hDnew : Sp n (fun y => BsR n (putB s c d) y ∨ y ∈ rest') d := (Sp.of (.inl ⟨c, hc, rfl⟩) : Sp n _ (putB s c d c)).congr fun j _ => by
    unfold putB
    rw [if_pos rfl, Int.sub_self]; rfl
  have hDold : Sp n (fun y => BsR n s y ∨ y ∈ rest) d := ((Sp.of (.inr hr) : Sp n (fun y => BsR n s y ∨ y ∈ rest) r).smul (inv101 x : Int)).congr fun j _ => by
    rw [hdj]; omega
  refine ⟨hb, fun i hi j => ?_, fun v => Iff.trans ⟨Sp.mono fun y hy => ?_, Sp.mono fun y hy => ?_⟩ (h.span v), fun y hy j hj => ?_, fun y hy j => ?_⟩
  · unfold putB
    rw [if_neg (by omega), h.low i (by omega) j, h.low i (by omega) c, Int.zero_mul]; rfl
  · rcases hy with ⟨i, hi, rfl⟩ | hy
    · by_cases e : i = c
      · exact hDold.congr fun j _ => by
          unfold putB
          rw [if_pos e, Int.sub_self]; rfl
      · exact ((Sp.of (.inl ⟨i, hi, rfl⟩) : Sp n (fun y => BsR n s y ∨ y ∈ rest) (s i)).sub (s i c) hDold).congr fun j _ => by
          unfold putB
          rw [if_neg e]; omega
    · obtain ⟨u, hu, rfl⟩ := h1 y hy
      exact ((Sp.of (.inr hu) : Sp n (fun y => BsR n s y ∨ y ∈ rest) u).sub (u c) hDold).congr fun j _ => by
        unfold lessV; omega
  · rcases hy with ⟨i, hi, rfl⟩ | hy
    · by_cases e : i = c
      · subst e
        exact .zero fun j _ => by rw [h.low i (Nat.le_refl _) j]; rfl
      · exact ((Sp.of (.inl ⟨i, hi, rfl⟩) : Sp n (fun y => BsR n (putB s c d) y ∨ y ∈ rest') (putB s c d i)).sub (-(s i c)) hDnew).congr fun j _ => by
          unfold putB
          rw [if_neg e, Int.neg_mul]; omega
    · rcases h2 y hy with rfl | hy'
      · refine (hDnew.smul (x : Int)).congr fun j _ => ?_
        have h3 := mulModR (a := (x : Int) * (inv101 x : Int)) (b := 1) (by omega) (y j)
        have h4 := mulMod (a := d j) (b := (inv101 x : Int) * y j) (by rw [hdj]; omega) (x : Int)
        rw [← Int.mul_assoc] at h4
        omega
      · exact ((Sp.of (.inr hy') : Sp n (fun y => BsR n (putB s c d) y ∨ y ∈ rest') _).sub (-(y c)) hDnew).congr fun j _ => by
          unfold lessV
          rw [Int.neg_mul]; omega
  · obtain ⟨u, hu, rfl⟩ := h1 y hy
    unfold lessV
    by_cases e : j = c
    · subst e; rw [hdc, Int.mul_one, Int.sub_self]; rfl
    · rw [h.zero u hu j (by omega), hdl j (by omega), Int.mul_zero]; rfl
  · obtain ⟨u, _, rfl⟩ := h1 y hy
    exact lessV_rng _ _ _ _

/-- All columns are done: the base has the span. -/
theorem RedInv.done {n : Nat} {R0 : (Nat → Int) → Prop} {s : Nat → Nat → Int} {rest : List (Nat → Int)} (h : RedInv n n R0 s rest) (v : Nat → Int) : Sp n (BsR n s) v ↔ Sp n R0 v :=
  Iff.trans ⟨Sp.mono fun y hy => Sp.of (.inl hy), Sp.mono fun y hy => by
    rcases hy with hy | hy
    · exact Sp.of hy
    · exact .zero fun j hj => by rw [h.zero y hy j hj]; rfl⟩ (h.span v)

/-- How many heads a base has below n. -/
def headsB (s : Nat → Nat → Int) : Nat → Nat
  | 0 => 0
  | n + 1 => headsB s n + if s n n = 1 then 1 else 0

theorem headsB_congr {s t : Nat → Nat → Int} : ∀ n, (∀ i, i < n → (s i i = 1 ↔ t i i = 1)) → headsB s n = headsB t n
  | 0, _ => rfl
  | n + 1, h => by
    rw [headsB, headsB, headsB_congr n (fun i hi => h i (by omega))]
    by_cases e : s n n = 1
    · rw [if_pos e, if_pos ((h n (by omega)).1 e)]
    · rw [if_neg e, if_neg (fun h' => e ((h n (by omega)).2 h'))]

theorem headsB_mono {s t : Nat → Nat → Int} : ∀ n, (∀ i, i < n → s i i = 1 → t i i = 1) → headsB s n ≤ headsB t n
  | 0, _ => Nat.le_refl _
  | n + 1, h => by
    have ih := headsB_mono n (fun i hi => h i (by omega))
    rw [headsB, headsB]
    by_cases e : s n n = 1
    · rw [if_pos e, if_pos (h n (by omega) e)]; omega
    · rw [if_neg e]; omega

/-- As many heads, and all of one among the other's: the same. -/
theorem headsB_same {s t : Nat → Nat → Int} : ∀ n, (∀ i, i < n → s i i = 1 → t i i = 1) → headsB s n = headsB t n → ∀ i, i < n → t i i = 1 → s i i = 1
  | 0, _, _, i, hi, _ => by omega
  | n + 1, h, he, i, hi, ht => by
    have hm := headsB_mono n (fun i hi => h i (by omega))
    rw [headsB, headsB] at he
    by_cases e : s n n = 1
    · by_cases hin : i = n
      · subst hin; exact e
      · rw [if_pos e, if_pos (h n (by omega) e)] at he
        exact headsB_same n (fun i hi => h i (by omega)) (by omega) i (by omega) ht
    · rw [if_neg e] at he
      by_cases et : t n n = 1
      · rw [if_pos et] at he; omega
      · rw [if_neg et] at he
        by_cases hin : i = n
        · subst hin; exact absurd ht et
        · exact headsB_same n (fun i hi => h i (by omega)) (by omega) i (by omega) ht

/-- The heads behind a row that is taken out. -/
theorem putB_heads {n c : Nat} {s : Nat → Nat → Int} {d : Nat → Int} (hs : Bs n s) (hdc : d c = 1) (hdl : ∀ j, j < c → d j = 0) : headsB (putB s c d) (c + 1) = headsB s c + 1 := by
  rw [headsB, if_pos (by unfold putB; rw [if_pos rfl]; exact hdc)]
  congr 1
  refine headsB_congr c fun i hi => ?_
  unfold putB
  rw [if_neg (by omega), hdl i hi, Int.mul_zero, Int.sub_zero]
  have := hs.rng i i
  omega

/-- A row is in the span just if the base with it has no more heads. -/
theorem heads_in {n : Nat} {s t : Nat → Nat → Int} {R0 : (Nat → Int) → Prop} {r : Nat → Int} (hs : Bs n s) (ht : Bs n t) (h1 : ∀ v, Sp n (BsR n s) v ↔ Sp n R0 v) (h2 : ∀ v, Sp n (BsR n t) v ↔ Sp n (fun y => R0 y ∨ y = r) v) : headsB s n = headsB t n ↔ Sp n R0 r := by
  have hst : ∀ v, Sp n (BsR n s) v → Sp n (BsR n t) v := fun v hv => (h2 v).2 (((h1 v).1 hv).mono fun y hy => Sp.of (.inl hy))
  have hsub : ∀ i, i < n → s i i = 1 → t i i = 1 := fun i _ he => Bs.head_of hs ht (fun k hk => hst _ (Sp.of ⟨k, hk, rfl⟩)) he
  constructor
  · intro he
    have hback := headsB_same n hsub he
    refine (h1 r).1 (hs.has_iff.1 fun j hj => ?_)
    have hrt : Sp n (BsR n t) (redV n s r) := by
      have h3 : Sp n (BsR n t) r := (h2 r).2 (Sp.of (.inr rfl))
      have h4 := hst _ (Bs.red_span (n := n) (s := s) r)
      exact (h3.sub 1 h4).congr fun j _ => by omega
    have h5 := ht.coords hrt j hj
    have h6 : serSum (fun i => redV n s r i * t i j) n = 0 := serSum_zero fun i hi => by
      rcases ht.row i with h0 | ⟨_, h7, _, _⟩
      · rw [h0 j, Int.mul_zero]
      · rw [hs.red_head r (hback i hi h7), Int.zero_mul]
    rw [h6] at h5
    have h8 : 0 ≤ redV n s r j ∧ redV n s r j ≤ 100 := by unfold redV; omega
    omega
  · intro hr
    have hts : ∀ v, Sp n (BsR n t) v → Sp n (BsR n s) v := fun v hv => (h1 v).2 (((h2 v).1 hv).mono fun y hy => by
      rcases hy with hy | rfl
      · exact Sp.of hy
      · exact hr)
    exact headsB_congr n fun i hi => ⟨hsub i hi, fun he => Bs.head_of ht hs (fun k hk => hts _ (Sp.of ⟨k, hk, rfl⟩)) he⟩

end Go.Proofs.YtoeebipahifpcaaGreat
end
section
/- What times a number is 1 modulo 101, by the model. -/
namespace Go.Proofs.YtoeebipahifpcaaGreat
open Go.RowKit

theorem turned_facts {c k x : Nat} (hc : c ≤ 100) (hk : k ≤ 101) (hx : x = c * k % 101) : IntKind.i64.wrap ((c : Int) * (k : Int)) = (c : Int) * (k : Int) ∧ ((c : Int) * (k : Int)).tmod 101 = (x : Int) ∧ ((c : Int) * (k : Int)) % 101 = (x : Int) := by
  have h1 : c * k ≤ 100 * 101 := Nat.mul_le_mul hc hk
  have e : (c : Int) * (k : Int) = ((c * k : Nat) : Int) := by simp
  rw [e]
  refine ⟨by rw [IntKind.wrap_i64]; omega, ?_, by rw [hx]; omega⟩
  rw [Int.tmod_eq_emod_of_nonneg (by omega), hx]; omega

set_option maxRecDepth 100000 in
set_option maxHeartbeats 1000000 in
theorem l5Turned_any (c : Nat) (w : World) (h0 : 1 ≤ c) (h1 : c ≤ 100) :
    Calls Tryz.prog 46 #[.int .i64 c] w (Ans (.int .i64 (inv101 c)) w) := by
  go_enter Tryz.func46, Tryz.ntmps46
  go_wp2_with fail
  go_loopw [3] (fun i wr => ∃ k : Nat, 1 ≤ k ∧ k ≤ 101 ∧ i = .int .i64 k ∧ w = wr ∧ ∀ j, 1 ≤ j → j < k → c * j % 101 ≠ 1) (fun i _ => 101 - (intOf i).toNat)
  case atStart => exact ⟨1, by omega, by omega, rfl, rfl, fun j h1 h2 => by omega⟩
  case round =>
    obtain ⟨k, hk1, hk2, rfl, rfl, hj⟩ := hrel
    by_cases hlt : k < 101
    · obtain ⟨x, hx⟩ : ∃ x, x = c * k % 101 := ⟨_, rfl⟩
      obtain ⟨f1, f2, f3⟩ := turned_facts h1 (show k ≤ 101 by omega) hx
      have HX := Lib.hid hx
      have HJ := Lib.hid hj
      have e0 : decide ((k : Int) < 101) = true := decide_eq_true (by omega)
      clear hx hj
      by_cases hx1 : x = 1
      · have e1 : ((x : Int) == 1) = true := by simp [hx1]
        have HI : Hid (k = inv101 c) := Lib.hid (inv101_only c (by omega) k (by omega) (by rw [← HX.out, hx1]))
        clear hx1
        go_wp2_with fail
        go_ret
        exact ⟨by first | rfl | (rw [HI.out]; rfl), Below.refl _ _⟩
      · have e1 : ((x : Int) == 1) = false := by simp; omega
        clear hx1
        go_wp2_with fail
        go_roundw
        case rel => exact ⟨k + 1, by omega, by omega, by go_num, trivial, fun j h2 h3 => by
            by_cases e : j = k
            · subst e
              rw [← HX.out]
              intro h; rw [h] at e1; simp at e1
            · exact HJ.out j h2 (by omega)⟩
        case measure => simp [intOf]; omega
    · have h5 := inv101_lt c
      have h6 := inv101_pos (show c < 101 by omega) (show 0 < c by omega)
      exact absurd (inv101_mul c (by omega) (by omega)) (hj (inv101 c) (by omega) (by omega))

end Go.Proofs.YtoeebipahifpcaaGreat
end
end
section
/- Rows made to a base, by the model: what holds on the way. -/
namespace Go.Proofs.YtoeebipahifpcaaGreat
open Go.RowKit

/-- The heads of a base below n. -/
def headL (s : Nat → Nat → Int) : Nat → List Nat
  | 0 => []
  | n + 1 => headL s n ++ if s n n = 1 then [n] else []
theorem headL_length (s : Nat → Nat → Int) : ∀ n, (headL s n).length = headsB s n
  | 0 => rfl
  | n + 1 => by
    rw [headL, headsB, List.length_append, headL_length s n]
    by_cases e : s n n = 1
    · rw [if_pos e, if_pos e]; rfl
    · rw [if_neg e, if_neg e]; rfl
theorem headL_lt (s : Nat → Nat → Int) : ∀ n, ∀ h ∈ headL s n, h < n ∧ s h h = 1
  | 0, h, hm => by simp [headL] at hm
  | n + 1, h, hm => by
    rw [headL, List.mem_append] at hm
    rcases hm with hm | hm
    · have := headL_lt s n h hm; exact ⟨by omega, this.2⟩
    · by_cases e : s n n = 1
      · rw [if_pos e, List.mem_singleton] at hm
        subst hm; exact ⟨by omega, e⟩
      · rw [if_neg e] at hm; simp at hm
theorem headL_congr {s t : Nat → Nat → Int} : ∀ n, (∀ i, i < n → (s i i = 1 ↔ t i i = 1)) → headL s n = headL t n
  | 0, _ => rfl
  | n + 1, h => by
    rw [headL, headL, headL_congr n (fun i hi => h i (by omega))]
    by_cases e : s n n = 1
    · rw [if_pos e, if_pos ((h n (by omega)).1 e)]
    · rw [if_neg e, if_neg (fun h' => e ((h n (by omega)).2 h'))]
theorem headL_put {n c : Nat} {s : Nat → Nat → Int} {d : Nat → Int} (hs : Bs n s) (hdc : d c = 1) (hdl : ∀ j, j < c → d j = 0) : headL (putB s c d) (c + 1) = headL s c ++ [c] := by
  rw [headL, if_pos (by unfold putB; rw [if_pos rfl]; exact hdc)]
  congr 1
  refine headL_congr c fun i hi => ?_
  unfold putB
  rw [if_neg (by omega), hdl i hi, Int.mul_zero, Int.sub_zero]
  have := hs.rng i i
  omega

/-- What lies where while rows are made to a base: the base's rows of, their heads, the rows that are left. -/
structure RedW (L Z : Nat) (w : World) (go co gh ch gr K H : Nat) (of : Nat → Nat → Int) (hs : List Nat) (vs : List Value) (rest : List (Nat → Int)) : Prop where
  own : w.ownsRow Z 48 1 (.slice (some ⟨go, 0, none⟩) K co) K vs
  row : ∀ i, i < K → ∃ g c, vs[i]? = some (.slice (some ⟨g, 0, none⟩) L c) ∧ g ≠ go ∧ g ≠ gh ∧ ∀ j, j < L → w.cell? ⟨g, j, none⟩ = some (.int .i64 (of i j))
  heads : w.ownsRow Z 3 1 (.slice (some ⟨gh, 0, none⟩) H ch) H (hs.map fun h : Nat => Value.int .i64 (h : Int))
  hlen : hs.length = H
  ne : go ≠ gh
  rest : Rd (rowE L) w (fun b => b ≠ go ∧ b ≠ gh) (some ⟨gr, 0, none⟩) rest
  below : Z ≤ w.heap.size
  pos : 0 < L

theorem RedW.step {L Z : Nat} {w w' : World} {go co gh ch gr K H : Nat} {of : Nat → Nat → Int} {hs : List Nat} {vs : List Value} {rest : List (Nat → Int)} (h : RedW L Z w go co gh ch gr K H of hs vs rest) (hb : Below w.heap.size w w') : RedW L Z w' go co gh ch gr K H of hs vs rest :=
  ⟨owns_below h.own hb, fun i hi => by
    obtain ⟨g, c, h1, h2, h3, h4⟩ := h.row i hi
    exact ⟨g, c, h1, h2, h3, fun j hj => keep1 hb (h4 j hj)⟩, owns_below h.heads hb, h.hlen, h.ne, h.rest.below (E := rowE L) Nat.one_pos hb, Nat.le_trans h.below hb.size, h.pos⟩

theorem RedW.congr {L Z : Nat} {w : World} {go co gh ch gr K H : Nat} {of of' : Nat → Nat → Int} {hs : List Nat} {vs : List Value} {rest : List (Nat → Int)} (h : RedW L Z w go co gh ch gr K H of hs vs rest) (e : ∀ i, i < K → ∀ j, j < L → of i j = of' i j) : RedW L Z w go co gh ch gr K H of' hs vs rest :=
  ⟨h.own, fun i hi => by
    obtain ⟨g, c, h1, h2, h3, h4⟩ := h.row i hi
    exact ⟨g, c, h1, h2, h3, fun j hj => by rw [← e i hi j hj]; exact h4 j hj⟩, h.heads, h.hlen, h.ne, h.rest, h.below, h.pos⟩

/-- Other rows are left. -/
theorem RedW.left {L Z : Nat} {w : World} {go co gh ch gr gr' K H : Nat} {of : Nat → Nat → Int} {hs : List Nat} {vs : List Value} {rest rest' : List (Nat → Int)} (h : RedW L Z w go co gh ch gr K H of hs vs rest) (h' : Rd (rowE L) w (fun b => b ≠ go ∧ b ≠ gh) (some ⟨gr', 0, none⟩) rest') : RedW L Z w go co gh ch gr' K H of hs vs rest' :=
  ⟨h.own, h.row, h.heads, h.hlen, h.ne, h', h.below, h.pos⟩

theorem RedW.lt {L Z : Nat} {w : World} {go co gh ch gr K H : Nat} {of : Nat → Nat → Int} {hs : List Nat} {vs : List Value} {rest : List (Nat → Int)} (h : RedW L Z w go co gh ch gr K H of hs vs rest) : (Z ≤ go ∧ go < w.heap.size) ∧ Z ≤ gh ∧ gh < w.heap.size := ⟨h.own.lt go rfl, h.heads.lt gh rfl⟩

/-- A row of the base is put anew. -/
theorem RedW.store {L Z : Nat} {w : World} {go co gh ch gr K H : Nat} {of : Nat → Nat → Int} {hs : List Nat} {vs : List Value} {rest : List (Nat → Int)} (h : RedW L Z w go co gh ch gr K H of hs vs rest) {i g c : Nat} {f : Nat → Int} (hi : i < K) (hg : g ≠ go) (hg' : g ≠ gh) (hc : ∀ j, j < L → w.cell? ⟨g, j, none⟩ = some (.int .i64 (f j))) :
    RedW L Z (w.setCell ⟨go, i, none⟩ (.slice (some ⟨g, 0, none⟩) L c)) go co gh ch gr K H (fun i' => if i' = i then f else of i') hs (vs.set i (.slice (some ⟨g, 0, none⟩) L c)) rest := by
  have hgo := h.own.stored i (.slice (some ⟨g, 0, none⟩) L c)
  have hk : Keeps (fun b => b ≠ go) w (w.setCell ⟨go, i, none⟩ (.slice (some ⟨g, 0, none⟩) L c)) := fun a u ha hu => by
    rw [World.cell?_of_block (hgo.2.block a.block (World.block_lt_of_cell? w a hu) (by simpa using ha))]; exact hu
  have hvl : vs.length = K := by have := h.own.1; omega
  refine ⟨hgo.1, fun i' hi' => ?_, ownsRow_setCell_other h.heads (by simp only [Value.ownBlock, ne_eq, Option.some.injEq]; exact fun e => h.ne e.symm) _, h.hlen, h.ne, h.rest.keep (E := rowE L) Nat.one_pos (hk.mono fun _ hb => hb.1) (fun _ hb _ => hb), by rw [World.size_setCell]; exact h.below, h.pos⟩
  by_cases e : i' = i
  · subst e
    refine ⟨g, c, by rw [List.getElem?_set_self (by omega)], hg, hg', fun j hj => ?_⟩
    rw [if_pos rfl]
    exact hk _ _ hg (hc j hj)
  · obtain ⟨g', c', h1, h2, h3, h4⟩ := h.row i' hi'
    refine ⟨g', c', by rw [List.getElem?_set_ne (fun e' => e e'.symm)]; exact h1, h2, h3, fun j hj => ?_⟩
    rw [if_neg e]
    exact hk _ _ h2 (h4 j hj)

/-- A row more: w1 is w with a box besides. -/
theorem RedW.push {L Z : Nat} {w w1 w2 : World} {go co gh ch gr K H go' co' : Nat} {of : Nat → Nat → Int} {hs : List Nat} {vs : List Value} {rest : List (Nat → Int)} (h : RedW L Z w go co gh ch gr K H of hs vs rest) {g c : Nat} {f : Nat → Int} (hg : g ≠ go) (hg' : g ≠ gh) (hc : ∀ j, j < L → w.cell? ⟨g, j, none⟩ = some (.int .i64 (f j))) (hgl : g < w.heap.size)
    (hb : Below w.heap.size w w1) (hown : w2.ownsRow Z 48 1 (.slice (some ⟨go', 0, none⟩) (K + 1) co') (K + 1) (vs ++ [.slice (some ⟨g, 0, none⟩) L c])) (hgr : w1.grownBy w2 (some go)) (hn : go' = go ∨ w.heap.size ≤ go') :
    RedW L Z w2 go' co' gh ch gr (K + 1) H (fun i' => if i' = K then f else of i') hs (vs ++ [.slice (some ⟨g, 0, none⟩) L c]) rest := by
  have hl := h.lt
  have hs1 := hb.size
  have hk : Keeps (fun b => b ≠ go) w w2 := fun a u ha hu => by
    have hlt := World.block_lt_of_cell? w a hu
    rw [World.cell?_of_block (hgr.block a.block (by omega) (by simpa using ha)), World.cell?_of_block (hb.block a.block hlt)]; exact hu
  have hvl : vs.length = K := by have := h.own.1; omega
  have hne : ∀ b, b < w.heap.size → b ≠ go → b ≠ go' := fun b hb' hbn e => by
    rcases hn with h' | h'
    · omega
    · omega
  refine ⟨hown, fun i' hi' => ?_, ?_, h.hlen, (fun e => hne gh hl.2.2 (fun e' => h.ne e'.symm) e.symm), h.rest.keep (E := rowE L) Nat.one_pos (hk.mono fun _ hb => hb.1) (fun b hb' hlt => ⟨hne b hlt hb'.1, hb'.2⟩), by have := hgr.size; have := h.below; omega, h.pos⟩
  · by_cases e : i' = K
    · subst e
      refine ⟨g, c, by rw [List.getElem?_append_right (by omega), hvl]; simp, hne g hgl hg, hg', fun j hj => ?_⟩
      rw [if_pos rfl]
      exact hk _ _ hg (hc j hj)
    · obtain ⟨g', c', h1, h2, h3, h4⟩ := h.row i' (by omega)
      refine ⟨g', c', by rw [List.getElem?_append_left (by omega)]; exact h1, hne g' ?_ h2, h3, fun j hj => ?_⟩
      · exact World.block_lt_of_cell? w _ (h4 0 h.pos)
      · rw [if_neg e]
        exact hk _ _ h2 (h4 j hj)
  · have h1 := owns_below h.heads hb
    exact h1.kept hgr (.inr (by simp only [Value.ownBlock, ne_eq, Option.some.injEq]; first | exact h.ne | exact fun e => h.ne e.symm))

/-- A head more. -/
theorem RedW.pushH {L Z : Nat} {w w1 w2 : World} {go co gh ch gr K H gh' ch' c : Nat} {of : Nat → Nat → Int} {hs : List Nat} {vs : List Value} {rest : List (Nat → Int)} (h : RedW L Z w go co gh ch gr K H of hs vs rest)
    (hb : Below w.heap.size w w1) (hown : w2.ownsRow Z 3 1 (.slice (some ⟨gh', 0, none⟩) (H + 1) ch') (H + 1) ((hs.map fun h : Nat => Value.int .i64 (h : Int)) ++ [.int .i64 (c : Int)])) (hgr : w1.grownBy w2 (some gh)) (hn : gh' = gh ∨ w.heap.size ≤ gh') :
    RedW L Z w2 go co gh' ch' gr K (H + 1) of (hs ++ [c]) vs rest := by
  have hl := h.lt
  have hs1 := hb.size
  have hk : Keeps (fun b => b ≠ gh) w w2 := fun a u ha hu => by
    have hlt := World.block_lt_of_cell? w a hu
    rw [World.cell?_of_block (hgr.block a.block (by omega) (by simpa using ha)), World.cell?_of_block (hb.block a.block hlt)]; exact hu
  have hne : ∀ b, b < w.heap.size → b ≠ gh → b ≠ gh' := fun b hb' hbn e => by
    rcases hn with h' | h'
    · omega
    · omega
  refine ⟨(owns_below h.own hb).kept hgr (.inr (by simp only [Value.ownBlock, ne_eq, Option.some.injEq]; first | exact h.ne | exact fun e => h.ne e.symm)), fun i' hi' => ?_, by simpa using hown, by rw [List.length_append, h.hlen]; rfl, hne go hl.1.2 h.ne, h.rest.keep (E := rowE L) Nat.one_pos (hk.mono fun _ hb => hb.2) (fun b hb' hlt => ⟨hb'.1, hne b hlt hb'.2⟩), by have := hgr.size; have := h.below; omega, h.pos⟩
  obtain ⟨g', c', h1, h2, h3, h4⟩ := h.row i' hi'
  exact ⟨g', c', h1, h2, hne g' (World.block_lt_of_cell? w _ (h4 0 h.pos)) h3, fun j hj => hk _ _ h3 (h4 j hj)⟩

theorem rowE.get {L : Nat} {w : World} {P : Nat → Prop} {g : Nat} {fs : List (Nat → Int)} (h : Rd (rowE L) w P (some ⟨g, 0, none⟩) fs) (k : Nat) (hk : k < fs.length) :
    ∃ g' c', w.cell? ⟨g, k, none⟩ = some (.slice (some ⟨g', 0, none⟩) L c') ∧ P g ∧ P g' ∧ ∀ j, j < L → w.cell? ⟨g', j, none⟩ = some (.int .i64 (fs[k] j)) := by
  obtain ⟨g1, cs, e, hg, hc, g', c', rfl, hL, hg', h4⟩ := h k hk
  cases e
  have := hc 0 Nat.one_pos
  simp only [rowE, Nat.mul_one, Nat.add_zero] at this
  exact ⟨g', c', this, hg, hg', h4⟩

section
open Go
theorem step_make_full {P : Program} {ops : Array Oper} {o : Oper} {a : Act} {w : World} {K : Act → World → Prop} {Q : Exit → Act → World → Prop} {E : Prop} (hgd : o.guard = none) (l c : Operand) (t : TypeId) (hop : o.op = Op.makeSlice t l c)
    (base : Nat) (e : TypeId) (i : TypeInfo) (z : Value) (size : Nat) (h1 : P.underlying t = some (.slice e)) (h2 : P.info? e = some i) (h3 : i.zero = some z) (h4 : i.size = size)
    (kl kc : IntKind) (n : Nat) (hl : a.eval l = .int kl (n : Int)) (hc : a.eval c = .int kc (n : Int)) (b2 : i.bytes * n ≤ 281474976710656) (b3 : n ≤ maxLen) (b4 : base ≤ w.heap.size)
    (h : ∀ w', w'.ownsRow base e size (.slice (some ⟨w.heap.size, 0, none⟩) n n) n (madeCells z.cells (n * size)).toList → w.grownBy w' none → K (a.put o.dst (.slice (some ⟨w.heap.size, 0, none⟩) n n)) w') :
    if Region.wanted o (yielded ops a.tmps) = true then Oper.wp P o a w K Q else E := by
  have hw : Region.wanted o (yielded ops a.tmps) = true := by simp [Region.wanted, hgd]
  rw [if_pos hw]
  obtain ⟨w', hrun, r1, r2⟩ := run_make_full (P := P) w base t e i z size h1 h2 h3 h4 kl kc n b2 b3 b4
  unfold Oper.wp
  simp [execOp, hop, hl, hc, hrun, Result.andThen]
  exact h w' r1 r2
end

/-- The rows of a base by their heads. -/
def ofH (s : Nat → Nat → Int) (hs : List Nat) (i : Nat) : Nat → Int := s (hs.getD i 0)

/-- What 'l6qReduce' answers. -/
def Reduced (L : Nat) (fs : List (Nat → Int)) (w : World) (e : Ending) (w' : World) : Prop :=
  Below w.heap.size w w' ∧ ∃ (s : Nat → Nat → Int) (rest : List (Nat → Int)) (go co gh ch gr K : Nat) (vs : List Value), RedInv L L (· ∈ fs) s rest ∧ e = .returned (.tuple #[.slice (some ⟨go, 0, none⟩) K co, .slice (some ⟨gh, 0, none⟩) K ch]) ∧ K = (headL s L).length ∧
    RedW L w.heap.size w' go co gh ch gr K K (ofH s (headL s L)) (headL s L) vs rest

set_option maxRecDepth 100000 in
set_option maxHeartbeats 16000000 in
theorem l6qReduce_any (L : Nat) (fs : List (Nat → Int)) (n : Nat) (hn : n = fs.length) (g cap : Nat) (w : World) (hL0 : 0 < L) (hL : L ≤ 18) (hn1 : n ≤ 100) (hrng : ∀ r ∈ fs, ∀ j, 0 ≤ r j ∧ r j ≤ 100) (hrd : Rd (rowE L) w (fun _ => True) (some ⟨g, 0, none⟩) fs) :
    Calls Tryz.prog 28 #[.slice (some ⟨g, 0, none⟩) n cap, .int .i64 L] w (Reduced L fs w) := by
  obtain ⟨i0, hi0, hzz, hzs, hzb⟩ := info_parts infoLI
  obtain ⟨j0, hj0, hyz, hys, hyb⟩ := info_parts infoNum
  have RW0 : Hid (RedW L w.heap.size ((w.alloc (.cells #[] 48 (0, 0))).alloc (.cells #[] 3 (0, 0))) w.heap.size 0 (w.heap.size + 1) 0 g 0 0 (ofH (fun _ _ => 0) []) [] [] fs) := Lib.hid (by
    have o1 := World.ownsRow_made (base := w.heap.size) (e := 48) (size := 1) w #[] 0 (Nat.le_refl _) (by simp [maxLen]) rfl
    have o2 := World.ownsRow_made (base := w.heap.size) (e := 3) (size := 1) (w.alloc (.cells #[] 48 (0, 0))) #[] 0 (by simp) (by simp [maxLen]) rfl
    have hb : Below w.heap.size w ((w.alloc (.cells #[] 48 (0, 0))).alloc (.cells #[] 3 (0, 0))) := ((Below.refl _ _).alloc (Nat.le_refl _) _).alloc (by simp) _
    refine ⟨World.ownsRow.alloc o1 _, fun i hi => by omega, by simpa using o2, rfl, by omega, hrd.keep (E := rowE L) Nat.one_pos (Keeps.of_below hb _) (fun b _ hlt => ⟨by omega, by omega⟩), by simp; omega, hL0⟩)
  have INV0 := Lib.hid (RedInv.start (n := L) hrng)
  have HN := Lib.hid hn
  have B0 : Hid (Below w.heap.size w ((w.alloc (.cells #[] 48 (0, 0))).alloc (.cells #[] 3 (0, 0)))) := Lib.hid (((Below.refl _ _).alloc (Nat.le_refl _) _).alloc (by simp) _)
  clear hrng hrd hn
  go_enter Tryz.func28, Tryz.ntmps28
  go_wp2_with fail
  go_loopw [0, 6, 7, 8] (fun rv ov hv cv wr => ∃ (c m cr go co gh ch gr K : Nat) (s : Nat → Nat → Int) (rest : List (Nat → Int)) (vs : List Value), c ≤ L ∧ cv = .int .i64 c ∧ rv = .slice (some ⟨gr, 0, none⟩) m cr ∧ m = rest.length ∧ m ≤ 100 ∧ ov = .slice (some ⟨go, 0, none⟩) K co ∧ hv = .slice (some ⟨gh, 0, none⟩) K ch ∧ K = (headL s c).length ∧ K ≤ c ∧
      RedInv L c (· ∈ fs) s rest ∧ RedW L w.heap.size wr go co gh ch gr K K (ofH s (headL s c)) (headL s c) vs rest ∧ Below w.heap.size w wr) (fun _ _ _ cv _ => L - (intOf cv).toNat)
  case atStart => exact ⟨0, n, cap, w.heap.size, 0, w.heap.size + 1, 0, g, 0, fun _ _ => 0, fs, [], Nat.zero_le _, rfl, rfl, HN.out, hn1, rfl, rfl, rfl, Nat.le_refl _, INV0.out, RW0.out, B0.out⟩
  case round =>
    obtain ⟨wo, rfl⟩ : ∃ wo : World, wo = wr := ⟨_, rfl⟩
    obtain ⟨c, m, cr, go, co, gh, ch, gr, K, s, rest, vs, hcL, rfl, rfl, hm, hm1, rfl, rfl, hK, hKc, hinv, hrw, hB⟩ := hrel
    have HM := Lib.hid hm
    have HK := Lib.hid hK
    have INV := Lib.hid hinv
    have RW := Lib.hid hrw
    have HB := Lib.hid hB
    have hzo : w.heap.size ≤ wo.heap.size := hB.size
    clear hm hK hinv hrw hB
    by_cases hlt : c < L
    · have hcd : decide ((c : Int) < (L : Int)) = true := decide_eq_true (by omega)
      have c0 : (0 : Int) ≤ (c : Int) := by omega
      go_upto_block 2 with fail
      go_cut [9, 10] from 23 to 41 (fun av _ wx => wo = wx ∧ ((av = .int .i64 (-1) ∧ ∀ r ∈ rest, r c = 0) ∨ ∃ (at' x : Nat) (h : at' < rest.length), av = .int .i64 (at' : Int) ∧ at' < m ∧ rest[at'] c = (x : Int) ∧ 1 ≤ x ∧ x ≤ 100))
      case first =>
        go_wp2_with fail
        go_loopw [9, 10] (fun av iv wr => ∃ i : Nat, i ≤ m ∧ iv = .int .i64 i ∧ wo = wr ∧ ((av = .int .i64 (-1) ∧ ∀ i' (h : i' < rest.length), i' < i → rest[i'] c = 0) ∨ ∃ (at' x : Nat) (h : at' < rest.length), av = .int .i64 (at' : Int) ∧ at' < m ∧ rest[at'] c = (x : Int) ∧ 1 ≤ x ∧ x ≤ 100)) (fun _ iv _ => m - (intOf iv).toNat)
        case atStart => exact ⟨0, Nat.zero_le _, rfl, rfl, .inl ⟨rfl, fun i' h h' => by omega⟩⟩
        case round =>
          obtain ⟨i, hi, rfl, rfl, ⟨rfl, hz⟩ | ⟨at', x, hat, rfl, hatm, hx, hx1, hx2⟩⟩ := hrel
          · have HZ := Lib.hid hz
            clear hz
            by_cases hil : i < m
            · have hir : i < rest.length := by rw [← HM.out]; exact hil
              obtain ⟨gi, ci, d0, _, _, dj⟩ := rowE.get RW.out.rest i hir
              have d1 := dj c hlt
              have hrg := INV.out.rng rest[i] (List.getElem_mem hir) c
              obtain ⟨x, hx⟩ : ∃ x : Nat, (x : Int) = rest[i] c := ⟨(rest[i] c).toNat, by omega⟩
              rw [← hx] at d1
              have HX := Lib.hid hx
              have hx2 : x ≤ 100 := by omega
              have i0' : (0 : Int) ≤ (i : Int) := by omega
              clear dj hrg hx
              by_cases hx0 : x = 0
              · have e0 : ((x : Int) != 0) = false := by simp [hx0]
                have HX0 : Hid (rest[i] c = 0) := Lib.hid (by rw [← HX.out, hx0]; rfl)
                clear hx0
                go_wp2_with fail
                go_roundw
                case rel => exact ⟨i + 1, by omega, by go_num, (by first | rfl | trivial), .inl ⟨(by first | rfl | trivial), fun i' h h' => by
                    by_cases e : i' = i
                    · subst e; exact HX0.out
                    · exact HZ.out i' h (by omega)⟩⟩
                case measure => simp [intOf]; omega
              · have e0 : ((x : Int) != 0) = true := by simp; omega
                go_wp2_with fail
                go_roundw
                case rel => exact ⟨i + 1, by omega, by go_num, (by first | rfl | trivial), .inr ⟨i, x, hir, rfl, hil, HX.out.symm, by omega, hx2⟩⟩
                case measure => simp [intOf]; omega
            · have HZA : Hid (∀ r ∈ rest, r c = 0) := Lib.hid (fun r hr => by
                obtain ⟨j, hj, rfl⟩ := List.getElem_of_mem hr
                exact HZ.out j hj (by have := HM.out; omega))
              go_wp2_with fail
              go_meet
              exact ⟨rfl, .inl ⟨rfl, HZA.out⟩⟩
          · have HX := Lib.hid hx
            have a0 : decide (((at' : Nat) : Int) < 0) = false := decide_eq_false (by omega)
            clear hx
            by_cases hil : i < m
            all_goals
              go_wp2_with fail
              go_meet
              exact ⟨rfl, .inr ⟨at', x, hat, rfl, hatm, HX.out, hx1, hx2⟩⟩
      case rest =>
        obtain ⟨rfl, ⟨rfl, hz⟩ | ⟨at', x, hat, rfl, hatm, hx, hx1, hx2⟩⟩ := hcut
        · have INV2 := Lib.hid (INV.out.skip hz)
          have HH : Hid (headL s (c + 1) = headL s c) := Lib.hid (by
            rw [headL, if_neg (by rw [INV.out.low c (Nat.le_refl _) c]; decide), List.append_nil])
          clear hz
          go_wp2_with fail
          go_roundw
          case rel => exact ⟨c + 1, m, cr, go, co, gh, ch, gr, K, s, rest, vs, by omega, by go_num, rfl, HM.out, hm1, rfl, rfl, by rw [HH.out]; exact HK.out, by omega, INV2.out, by rw [HH.out]; exact RW.out, HB.out⟩
          case measure => simp [intOf]; omega
        · have a0 : decide (((at' : Nat) : Int) < 0) = false := decide_eq_false (by omega)
          have a1 : (0 : Int) ≤ (at' : Int) := by omega
          obtain ⟨gi, ci, d0, _, hgi, dj⟩ := rowE.get RW.out.rest at' hat
          have d1 := dj c hlt
          rw [hx] at d1
          have HDJ := Lib.hid dj
          have HX := Lib.hid hx
          obtain ⟨r, hr⟩ : ∃ r, r = rest[at'] := ⟨_, rfl⟩
          rw [← hr] at HX HDJ
          have HR := Lib.hid hr
          have HRM : Hid (r ∈ rest) := Lib.hid (by rw [hr]; exact List.getElem_mem hat)
          have HI := Lib.hid (fun W => l5Turned_any x W hx1 hx2)
          have hiv := inv101_lt x
          obtain ⟨iv, hive⟩ : ∃ iv : Nat, iv = inv101 x := ⟨_, rfl⟩
          rw [← hive] at HI hiv
          have HIV := Lib.hid hive
          have hwi : IntKind.i64.wrap (0 - (iv : Int)) = 0 - (iv : Int) := by rw [IntKind.wrap_i64]; omega
          have hwi2 : IntKind.i64.wrap (-(iv : Int)) = -(iv : Int) := by rw [IntKind.wrap_i64]; omega
          clear dj hx hr hive
          go_wp2_with fail
          refine (HI.out _).mono ?_
          rintro e w1 ⟨rfl, hb1⟩
          have d0 := keep1 hb1 d0
          have HB1 := Lib.hid (below_step HB.out hb1)
          have RW1 := Lib.hid (RW.out.step hb1)
          have HDJ1 : Hid (∀ j, j < L → w1.cell? ⟨gi, j, none⟩ = some (.int .i64 (r j))) := Lib.hid (fun j hj => keep1 hb1 (HDJ.out j hj))
          have hz1 : w.heap.size ≤ w1.heap.size := HB1.out.size
          clear hb1
          go_wp2_with fail
          refine wp_region_held_drew (S := (fun w' => w'.cell? ⟨gr, at', none⟩ = some (.slice (some ⟨gi, 0, none⟩) L ci))) (by kernel_rfl) (by exact d0) (fun hHeld => ?_)
          refine wpAnyH_take (i := 0) (oi := { dst := some 52, op := Op.move (Operand.tmp 1), type := 3, pos := "l6_duals.go:90", after := #[], guard := none }) (v := ?_) rfl (by kernel_rfl) (by kernel_rfl) (by kernel_rfl) (fun _ _ _ h => h) (Or.inl ⟨by rfl, ?_⟩) (by assumption) ?_
          rotate_left
          · (intro w hSw; (try dsimp only at hSw); go_simp <;> with_reducible rfl)
          (try simp only [Act.put, List.setIfInBounds_toArray, List.set_cons_zero, List.set_cons_succ])
          refine wpAnyH_take (i := 2) (oi := { dst := some 54, op := Op.move (Operand.tmp 11), type := 3, pos := "l6_duals.go:90", after := #[], guard := none }) (v := ?_) rfl (by kernel_rfl) (by kernel_rfl) (by kernel_rfl) (fun _ _ _ h => h) (Or.inl ⟨by rfl, ?_⟩) (by assumption) ?_
          rotate_left
          · (intro w hSw; (try dsimp only at hSw); go_simp <;> with_reducible rfl)
          (try simp only [Act.put, List.setIfInBounds_toArray, List.set_cons_zero, List.set_cons_succ])
          refine wpAnyH_take (i := 3) (oi := { dst := some 55, op := Op.binOp BinOp.sub 3 (Operand.const (Value.int IntKind.i64 0)) (Operand.tmp 54) 3, type := 3, pos := "l6_duals.go:90", after := #[{ on := 2, ground := Ground.data }], guard := none }) (v := ?_) rfl (by kernel_rfl) (by kernel_rfl) (by kernel_rfl) (fun _ _ _ h => h) (Or.inl ⟨by rfl, ?_⟩) (by assumption) ?_
          rotate_left
          · (intro w hSw; (try dsimp only at hSw); go_simp <;> with_reducible rfl)
          (try simp only [Act.put, List.setIfInBounds_toArray, List.set_cons_zero, List.set_cons_succ])
          refine wpAnyH_take (i := 4) (oi := { dst := some 56, op := Op.move (Operand.tmp 0), type := 45, pos := "l6_duals.go:90", after := #[], guard := none }) (v := ?_) rfl (by kernel_rfl) (by kernel_rfl) (by kernel_rfl) (fun _ _ _ h => h) (Or.inl ⟨by rfl, ?_⟩) (by assumption) ?_
          rotate_left
          · (intro w hSw; (try dsimp only at hSw); go_simp <;> with_reducible rfl)
          (try simp only [Act.put, List.setIfInBounds_toArray, List.set_cons_zero, List.set_cons_succ])
          refine wpAnyH_take (i := 5) (oi := { dst := some 57, op := Op.move (Operand.tmp 9), type := 3, pos := "l6_duals.go:90", after := #[], guard := none }) (v := ?_) rfl (by kernel_rfl) (by kernel_rfl) (by kernel_rfl) (fun _ _ _ h => h) (Or.inl ⟨by rfl, ?_⟩) (by assumption) ?_
          rotate_left
          · (intro w hSw; (try dsimp only at hSw); go_simp <;> with_reducible rfl)
          (try simp only [Act.put, List.setIfInBounds_toArray, List.set_cons_zero, List.set_cons_succ])
          refine wpAnyH_take (i := 6) (oi := { dst := some 58, op := Op.indexAddr 45 (Operand.tmp 56) (Operand.tmp 57), type := 0, pos := "l6_duals.go:90", after := #[{ on := 4, ground := Ground.data }, { on := 5, ground := Ground.data }], guard := none }) (v := ?_) rfl (by kernel_rfl) (by kernel_rfl) (by kernel_rfl) (fun _ _ _ h => h) (Or.inl ⟨by rfl, ?_⟩) (by assumption) ?_
          rotate_left
          · (intro w hSw; (try dsimp only at hSw); go_simp <;> with_reducible rfl)
          (try simp only [Act.put, List.setIfInBounds_toArray, List.set_cons_zero, List.set_cons_succ])
          refine wpAnyH_take (i := 7) (oi := { dst := some 59, op := Op.load 48 (Operand.tmp 58), type := 48, pos := "l6_duals.go:90", after := #[{ on := 6, ground := Ground.data }], guard := none }) (v := ?_) rfl (by kernel_rfl) (by kernel_rfl) (by kernel_rfl) (fun _ _ _ h => h) (Or.inl ⟨by rfl, ?_⟩) (by assumption) ?_
          rotate_left
          · (intro w hSw; (try dsimp only at hSw); go_simp <;> with_reducible rfl)
          (try simp only [Act.put, List.setIfInBounds_toArray, List.set_cons_zero, List.set_cons_succ])
          refine wpAnyH_ready (rs := [1]) (by kernel_rfl) (by simp) ?_
          refine AllReadyH.cons (o := { dst := some 53, op := Op.makeSlice 48 (Operand.tmp 52) (Operand.tmp 52), type := 48, pos := "l6_duals.go:90", after := #[{ on := 0, ground := Ground.data }, { on := 0, ground := Ground.data }], guard := none }) rfl (fun K hK => ?_) AllReadyH.nil
          refine step_make_full (by rfl) (.tmp 52) (.tmp 52) 48 (by rfl) w1.heap.size 3 j0 (.int .i64 0) 1 Tryz.underlying48 hj0 hyz hys .i64 .i64 L (by rfl) (by rfl) (by rw [hyb]; omega) (by unfold maxLen; omega) (Nat.le_refl _) ?_
          intro w2 hown2 hg2
          have hb2 : Below w1.heap.size w1 w2 := (Below.refl w1.heap.size w1).drew.grown hg2 (by simp) (fun k e => by cases e)
          have d2 := keep1 hb2 d0
          have HZO : Hid (NumO w2 (some ⟨w1.heap.size, 0, none⟩) L (fun _ => 0)) := Lib.hid (fun j hj => ⟨w1.heap.size, 0, rfl, by
            rw [Nat.zero_add]
            have h1 := hown2.cellAt (g := w1.heap.size) j (by omega)
            refine h1.trans ?_
            rw [Nat.mul_one, Array.getElem?_toList]
            exact madeNum_get hj⟩)
          have HGO : Hid (NumO w2 (some ⟨gi, 0, none⟩) L r) := Lib.hid (fun j hj => ⟨gi, 0, rfl, by rw [Nat.zero_add]; exact keep1 hb2 (HDJ1.out j hj)⟩)
          have HLS := Lib.hid (l6qLess_any L (fun _ => 0) r (-(iv : Int)) (some ⟨w1.heap.size, 0, none⟩) (some ⟨gi, 0, none⟩) L ci w2 (by omega) (by omega) (fun _ _ => by omega) (fun j _ => INV.out.rng r HRM.out j) HZO.out HGO.out)
          have HB2 := Lib.hid hb2
          clear hown2 hg2 hb2
          refine hK.out _ _ ?_ (fun hHeld => ?_)
          · exact d2
          clear hK K
          (try simp only [Act.put, List.setIfInBounds_toArray, List.set_cons_zero, List.set_cons_succ])
          refine wpAnyH_ready (rs := [8]) (by kernel_rfl) (by simp) ?_
          refine AllReadyH.cons (o := { dst := some 60, op := Op.call { callee := Callee.value (Operand.func 47), args := #[Operand.tmp 53, Operand.tmp 55, Operand.tmp 59], argTypes := #[48, 3, 48] }, type := 48, pos := "l6_duals.go:90", after := #[{ on := 1, ground := Ground.data }, { on := 3, ground := Ground.data }, { on := 7, ground := Ground.data }], guard := none }) rfl (fun K hK => ?_) AllReadyH.nil
          go_simp
          go_wp2_with fail
          refine HLS.out.mono ?_
          rintro e V ⟨hbV, gd, cd, rfl, hgd, hcd, hnum⟩
          have d3 := keep1 hbV d2
          have HBV := Lib.hid (HB2.out.trans (hbV.mono HB2.out.size))
          have HNUM := Lib.hid hnum
          have HGD := Lib.hid (Nat.le_trans HB2.out.size hgd)
          clear hbV hnum hgd
          go_wp2_with fail
          refine hK.out _ _ ?_ (fun hHeld => ?_)
          · exact d3
          clear hK K
          (try simp only [Act.put, List.setIfInBounds_toArray, List.set_cons_zero, List.set_cons_succ])
          refine wpAnyH_take (i := 9) (oi := { dst := some 12, op := Op.assign (Operand.tmp 60), type := 48, pos := "l6_duals.go:90", after := #[{ on := 8, ground := Ground.data }, { on := 8, ground := Ground.chain }, { on := 0, ground := Ground.phase }, { on := 1, ground := Ground.phase }, { on := 2, ground := Ground.phase }, { on := 3, ground := Ground.phase }, { on := 4, ground := Ground.phase }, { on := 5, ground := Ground.phase }, { on := 6, ground := Ground.phase }, { on := 7, ground := Ground.phase }, { on := 8, ground := Ground.phase }], guard := none }) (v := ?_) rfl (by kernel_rfl) (by kernel_rfl) (by kernel_rfl) (fun _ _ _ h => h) (Or.inl ⟨by rfl, ?_⟩) (by assumption) ?_
          rotate_left
          · (intro w hSw; (try dsimp only at hSw); go_simp <;> with_reducible rfl)
          (try simp only [Act.put, List.setIfInBounds_toArray, List.set_cons_zero, List.set_cons_succ])
          refine wpAnyH_done (by kernel_rfl) ?_ _
          obtain ⟨d, hd⟩ : ∃ d : Nat → Int, d = lessV (fun _ => 0) (-(iv : Int)) r := ⟨_, rfl⟩
          rw [← hd] at HNUM
          have HD := Lib.hid hd
          have hdr : Hid (∀ j, 0 ≤ d j ∧ d j ≤ 100) := Lib.hid (fun j => by rw [hd]; exact lessV_rng _ _ _ _)
          have RWV := Lib.hid (RW1.out.step HBV.out)
          have hlo := RW1.out.lt
          have hzv := HBV.out.size
          have hgdg : gd ≠ go := by have := HGD.out; omega
          have hgdh : gd ≠ gh := by have := HGD.out; omega
          have HBZV := Lib.hid (below_step HB1.out HBV.out)
          have hgdv : gd < V.heap.size := HNUM.out.lt
          have R0 : Hid (Row ((rowE L).inn (fun b => V.heap.size ≤ b)) 48 V.heap.size [] (.slice (some ⟨V.heap.size, 0, none⟩) 0 0) [] (V.alloc (.cells #[] 48 (0, 0)))) := Lib.hid ⟨World.ownsRow_made V #[] 0 (Nat.le_refl _) (by simp [maxLen]) rfl, fun _ h => by simp at h⟩
          have hbv0 : Hid (Below V.heap.size V (V.alloc (.cells #[] 48 (0, 0)))) := Lib.hid ((Below.refl _ _).alloc (Nat.le_refl _) _)
          clear hd d0
          go_wp2_with fail
          go_loopw [13, 14] (fun nv iv wr => ∃ (i q cq N : Nat) (fs' : List (Nat → Int)) (vs' : List Value), i ≤ m ∧ iv = .int .i64 i ∧ nv = .slice (some ⟨q, 0, none⟩) N cq ∧ N = fs'.length ∧ N ≤ i ∧ Row ((rowE L).inn (fun b => V.heap.size ≤ b)) 48 V.heap.size fs' (.slice (some ⟨q, 0, none⟩) N cq) vs' wr ∧
              (∀ y ∈ fs', ∃ u ∈ rest, y = lessV u (u c) d) ∧ (∀ i' (h : i' < rest.length), i' < i → i' = at' ∨ lessV rest[i'] (rest[i'] c) d ∈ fs') ∧ Below V.heap.size V wr) (fun _ iv _ => m - (intOf iv).toNat)
          case atStart => exact ⟨0, V.heap.size, 0, 0, [], [], Nat.zero_le _, rfl, rfl, rfl, Nat.le_refl _, R0.out, fun y hy => by simp at hy, fun i' h h' => by omega, hbv0.out⟩
          case round =>
            obtain ⟨wq, rfl⟩ : ∃ wq : World, wq = wr := ⟨_, rfl⟩
            obtain ⟨i, q, cq, N, fs', vs', hi, rfl, rfl, hN, hNi, hrow, hall, hhas, hBq⟩ := hrel
            have HNN := Lib.hid hN
            have ROW := Lib.hid hrow
            have HALL := Lib.hid hall
            have HHAS := Lib.hid hhas
            have HBQ := Lib.hid hBq
            have RWQ := Lib.hid (RWV.out.step hBq)
            have hzq : V.heap.size ≤ wq.heap.size := hBq.size
            clear hN hrow hall hhas hBq
            by_cases hil : i < m
            · have hir : i < rest.length := by rw [← HM.out]; exact hil
              have i0' : (0 : Int) ≤ (i : Int) := by omega
              by_cases hia : i = at'
              · have e0 : ((i : Int) != (at' : Int)) = false := by simp; omega
                have HIA := Lib.hid hia
                clear hia
                go_wp2_with fail
                go_roundw
                case rel => exact ⟨i + 1, q, cq, N, fs', vs', by omega, by go_num, rfl, HNN.out, by omega, ROW.out, HALL.out, fun i' h h' => by
                    by_cases e : i' = i
                    · exact .inl (e.trans HIA.out)
                    · exact HHAS.out i' h (by omega), HBQ.out⟩
                case measure => simp [intOf]; omega
              · have e0 : ((i : Int) != (at' : Int)) = true := by simp; omega
                obtain ⟨gk, ck, f0V, _, _, ejV⟩ := rowE.get RWV.out.rest i hir
                have hgrV : gr < V.heap.size := World.block_lt_of_cell? V _ f0V
                have hgkV : gk < V.heap.size := World.block_lt_of_cell? V _ (ejV c hlt)
                have f0 := keep1 HBQ.out f0V
                have ej : ∀ j, j < L → wq.cell? ⟨gk, j, none⟩ = some (.int .i64 (rest[i] j)) := fun j hj => keep1 HBQ.out (ejV j hj)
                have f1 := ej c hlt
                obtain ⟨u, hu⟩ : ∃ u, u = rest[i] := ⟨_, rfl⟩
                rw [← hu] at f1 ej
                clear f0V ejV
                have HU := Lib.hid hu
                have HUM : Hid (u ∈ rest) := Lib.hid (by rw [hu]; exact List.getElem_mem hir)
                obtain ⟨y, hy⟩ : ∃ y, y = u c := ⟨_, rfl⟩
                rw [← hy] at f1
                have hyr : 0 ≤ y ∧ y ≤ 100 := by rw [hy]; exact INV.out.rng u HUM.out c
                have HY := Lib.hid hy
                have HEJ := Lib.hid ej
                have HLS := Lib.hid (fun (W : World) (hb : Below wq.heap.size wq W) => l6qLess_any L u d y (some ⟨gk, 0, none⟩) (some ⟨gd, 0, none⟩) ck cd W (by omega) (by omega) (fun j _ => INV.out.rng u HUM.out j) (fun j _ => hdr.out j) (fun j hj => ⟨gk, 0, rfl, by rw [Nat.zero_add]; exact keep1 hb (HEJ.out j hj)⟩) (fun j hj => ⟨gd, 0, rfl, by rw [Nat.zero_add]; exact keep1 hb (keep1 HBQ.out (HNUM.out.cell hj))⟩))
                have hNl : N ≤ 100 := by omega
                have hown0 := Lib.hid ROW.out.own.lt
                have HOWNQ : Hid (wq.ownsRow V.heap.size 48 1 (.slice (some ⟨q, 0, none⟩) N cq) N vs') := Lib.hid (by have h := ROW.out.own; rw [← HNN.out] at h; exact h)
                have hqlt := (HOWNQ.out.lt q rfl)
                clear hia ej hu hy
                go_wp2_with fail
                refine wp_region_held_drew (S := (fun w' => w'.cell? ⟨gr, i, none⟩ = some (.slice (some ⟨gk, 0, none⟩) L ck) ∧ w'.cell? ⟨gk, c, none⟩ = some (.int .i64 y))) (by kernel_rfl) (by exact ⟨f0, f1⟩) (fun hHeld => ?_)
                refine wpAnyH_take (i := 0) (oi := { dst := some 71, op := Op.move (Operand.tmp 13), type := 45, pos := "l6_duals.go:94", after := #[], guard := none }) (v := ?_) rfl (by kernel_rfl) (by kernel_rfl) (by kernel_rfl) (fun _ _ _ h => h) (Or.inl ⟨by rfl, ?_⟩) (by assumption) ?_
                rotate_left
                · (intro w hSw; (try dsimp only at hSw); go_simp <;> with_reducible rfl)
                (try simp only [Act.put, List.setIfInBounds_toArray, List.set_cons_zero, List.set_cons_succ])
                refine wpAnyH_take (i := 1) (oi := { dst := some 72, op := Op.move (Operand.tmp 0), type := 45, pos := "l6_duals.go:94", after := #[], guard := none }) (v := ?_) rfl (by kernel_rfl) (by kernel_rfl) (by kernel_rfl) (fun _ _ _ h => h) (Or.inl ⟨by rfl, ?_⟩) (by assumption) ?_
                rotate_left
                · (intro w hSw; (try dsimp only at hSw); go_simp <;> with_reducible rfl)
                (try simp only [Act.put, List.setIfInBounds_toArray, List.set_cons_zero, List.set_cons_succ])
                refine wpAnyH_take (i := 2) (oi := { dst := some 73, op := Op.move (Operand.tmp 14), type := 3, pos := "l6_duals.go:94", after := #[], guard := none }) (v := ?_) rfl (by kernel_rfl) (by kernel_rfl) (by kernel_rfl) (fun _ _ _ h => h) (Or.inl ⟨by rfl, ?_⟩) (by assumption) ?_
                rotate_left
                · (intro w hSw; (try dsimp only at hSw); go_simp <;> with_reducible rfl)
                (try simp only [Act.put, List.setIfInBounds_toArray, List.set_cons_zero, List.set_cons_succ])
                refine wpAnyH_take (i := 3) (oi := { dst := some 74, op := Op.indexAddr 45 (Operand.tmp 72) (Operand.tmp 73), type := 0, pos := "l6_duals.go:94", after := #[{ on := 1, ground := Ground.data }, { on := 2, ground := Ground.data }], guard := none }) (v := ?_) rfl (by kernel_rfl) (by kernel_rfl) (by kernel_rfl) (fun _ _ _ h => h) (Or.inl ⟨by rfl, ?_⟩) (by assumption) ?_
                rotate_left
                · (intro w hSw; (try dsimp only at hSw); go_simp <;> with_reducible rfl)
                (try simp only [Act.put, List.setIfInBounds_toArray, List.set_cons_zero, List.set_cons_succ])
                refine wpAnyH_take (i := 4) (oi := { dst := some 75, op := Op.load 48 (Operand.tmp 74), type := 48, pos := "l6_duals.go:94", after := #[{ on := 3, ground := Ground.data }], guard := none }) (v := ?_) rfl (by kernel_rfl) (by kernel_rfl) (by kernel_rfl) (fun _ _ _ h => h) (Or.inl ⟨by rfl, ?_⟩) (by assumption) ?_
                rotate_left
                · (intro w hSw; (try dsimp only at hSw); go_simp <;> with_reducible rfl)
                (try simp only [Act.put, List.setIfInBounds_toArray, List.set_cons_zero, List.set_cons_succ])
                refine wpAnyH_take (i := 5) (oi := { dst := some 76, op := Op.move (Operand.tmp 0), type := 45, pos := "l6_duals.go:94", after := #[], guard := none }) (v := ?_) rfl (by kernel_rfl) (by kernel_rfl) (by kernel_rfl) (fun _ _ _ h => h) (Or.inl ⟨by rfl, ?_⟩) (by assumption) ?_
                rotate_left
                · (intro w hSw; (try dsimp only at hSw); go_simp <;> with_reducible rfl)
                (try simp only [Act.put, List.setIfInBounds_toArray, List.set_cons_zero, List.set_cons_succ])
                refine wpAnyH_take (i := 6) (oi := { dst := some 77, op := Op.move (Operand.tmp 14), type := 3, pos := "l6_duals.go:94", after := #[], guard := none }) (v := ?_) rfl (by kernel_rfl) (by kernel_rfl) (by kernel_rfl) (fun _ _ _ h => h) (Or.inl ⟨by rfl, ?_⟩) (by assumption) ?_
                rotate_left
                · (intro w hSw; (try dsimp only at hSw); go_simp <;> with_reducible rfl)
                (try simp only [Act.put, List.setIfInBounds_toArray, List.set_cons_zero, List.set_cons_succ])
                refine wpAnyH_take (i := 7) (oi := { dst := some 78, op := Op.indexAddr 45 (Operand.tmp 76) (Operand.tmp 77), type := 0, pos := "l6_duals.go:94", after := #[{ on := 5, ground := Ground.data }, { on := 6, ground := Ground.data }], guard := none }) (v := ?_) rfl (by kernel_rfl) (by kernel_rfl) (by kernel_rfl) (fun _ _ _ h => h) (Or.inl ⟨by rfl, ?_⟩) (by assumption) ?_
                rotate_left
                · (intro w hSw; (try dsimp only at hSw); go_simp <;> with_reducible rfl)
                (try simp only [Act.put, List.setIfInBounds_toArray, List.set_cons_zero, List.set_cons_succ])
                refine wpAnyH_take (i := 8) (oi := { dst := some 79, op := Op.load 48 (Operand.tmp 78), type := 48, pos := "l6_duals.go:94", after := #[{ on := 7, ground := Ground.data }], guard := none }) (v := ?_) rfl (by kernel_rfl) (by kernel_rfl) (by kernel_rfl) (fun _ _ _ h => h) (Or.inl ⟨by rfl, ?_⟩) (by assumption) ?_
                rotate_left
                · (intro w hSw; (try dsimp only at hSw); go_simp <;> with_reducible rfl)
                (try simp only [Act.put, List.setIfInBounds_toArray, List.set_cons_zero, List.set_cons_succ])
                refine wpAnyH_take (i := 9) (oi := { dst := some 80, op := Op.move (Operand.tmp 8), type := 3, pos := "l6_duals.go:94", after := #[], guard := none }) (v := ?_) rfl (by kernel_rfl) (by kernel_rfl) (by kernel_rfl) (fun _ _ _ h => h) (Or.inl ⟨by rfl, ?_⟩) (by assumption) ?_
                rotate_left
                · (intro w hSw; (try dsimp only at hSw); go_simp <;> with_reducible rfl)
                (try simp only [Act.put, List.setIfInBounds_toArray, List.set_cons_zero, List.set_cons_succ])
                refine wpAnyH_take (i := 10) (oi := { dst := some 81, op := Op.indexAddr 48 (Operand.tmp 79) (Operand.tmp 80), type := 0, pos := "l6_duals.go:94", after := #[{ on := 8, ground := Ground.data }, { on := 9, ground := Ground.data }], guard := none }) (v := ?_) rfl (by kernel_rfl) (by kernel_rfl) (by kernel_rfl) (fun _ _ _ h => h) (Or.inl ⟨by rfl, ?_⟩) (by assumption) ?_
                rotate_left
                · (intro w hSw; (try dsimp only at hSw); go_simp <;> with_reducible rfl)
                (try simp only [Act.put, List.setIfInBounds_toArray, List.set_cons_zero, List.set_cons_succ])
                refine wpAnyH_take (i := 11) (oi := { dst := some 82, op := Op.load 3 (Operand.tmp 81), type := 3, pos := "l6_duals.go:94", after := #[{ on := 10, ground := Ground.data }], guard := none }) (v := ?_) rfl (by kernel_rfl) (by kernel_rfl) (by kernel_rfl) (fun _ _ _ h => h) (Or.inl ⟨by rfl, ?_⟩) (by assumption) ?_
                rotate_left
                · (intro w hSw; (try dsimp only at hSw); go_simp <;> with_reducible rfl)
                (try simp only [Act.put, List.setIfInBounds_toArray, List.set_cons_zero, List.set_cons_succ])
                refine wpAnyH_take (i := 12) (oi := { dst := some 83, op := Op.move (Operand.tmp 12), type := 48, pos := "l6_duals.go:94", after := #[], guard := none }) (v := ?_) rfl (by kernel_rfl) (by kernel_rfl) (by kernel_rfl) (fun _ _ _ h => h) (Or.inl ⟨by rfl, ?_⟩) (by assumption) ?_
                rotate_left
                · (intro w hSw; (try dsimp only at hSw); go_simp <;> with_reducible rfl)
                (try simp only [Act.put, List.setIfInBounds_toArray, List.set_cons_zero, List.set_cons_succ])
                refine wpAnyH_ready (rs := [13]) (by kernel_rfl) (by simp) ?_
                refine AllReadyH.cons (o := { dst := some 84, op := Op.call { callee := Callee.value (Operand.func 47), args := #[Operand.tmp 75, Operand.tmp 82, Operand.tmp 83], argTypes := #[48, 3, 48] }, type := 48, pos := "l6_duals.go:94", after := #[{ on := 4, ground := Ground.data }, { on := 11, ground := Ground.data }, { on := 12, ground := Ground.data }], guard := none }) rfl (fun K hK => ?_) AllReadyH.nil
                go_simp
                go_wp2_with fail
                refine (HLS.out _ (Below.refl _ _).drew).mono ?_
                rintro e V4 ⟨hb4, gn, cn, rfl, hgn, hcn, hnum⟩
                have hk4 : Below wq.heap.size wq V4 := (Below.refl _ _).drew.trans hb4
                have g0 := keep1 hk4 f0
                have g1 := keep1 hk4 f1
                have HK4 := Lib.hid hk4
                have HNU := Lib.hid hnum
                have hgn4 : wq.heap.size ≤ gn := hgn
                clear hb4 hk4 hnum hgn
                go_wp2_with fail
                refine hK.out _ _ ?_ (fun hHeld => ?_)
                · exact ⟨g0, g1⟩
                clear hK K
                (try simp only [Act.put, List.setIfInBounds_toArray, List.set_cons_zero, List.set_cons_succ])
                refine wpAnyH_ready (rs := [14]) (by kernel_rfl) (by simp) ?_
                refine AllReadyH.cons (o := { dst := some 85, op := Op.buildSlice 45 1 #[(0, Operand.tmp 84)], type := 45, pos := "l6_duals.go:94", after := #[{ on := 13, ground := Ground.data }], guard := none }) rfl (fun K hK => ?_) AllReadyH.nil
                go_simp
                go_wp2_with fail
                have hb5 : Below V4.heap.size V4 (V4.alloc (.cells #[.slice (some ⟨gn, 0, none⟩) L cn] 48 (0, 0))) := (Below.refl _ _).alloc (Nat.le_refl _) _
                have HB5 := Lib.hid hb5
                refine hK.out _ _ ?_ (fun hHeld => ?_)
                · exact ⟨keep1 hb5 g0, keep1 hb5 g1⟩
                clear hK K hb5
                (try simp only [Act.put, List.setIfInBounds_toArray, List.set_cons_zero, List.set_cons_succ])
                refine wpAnyH_ready (rs := [15]) (by kernel_rfl) (by simp) ?_
                refine AllReadyH.cons (o := { dst := some 86, op := Op.call { callee := Callee.builtin Builtin.append, args := #[Operand.tmp 71, Operand.tmp 85], argTypes := #[45, 45] }, type := 45, pos := "l6_duals.go:94", after := #[{ on := 0, ground := Ground.data }, { on := 14, ground := Ground.data }, { on := 13, ground := Ground.chain }], guard := none }) rfl (fun K hK => ?_) AllReadyH.nil
                refine step_append_lies _ (by rfl) _ _ 45 (by rfl) V.heap.size 48 i0 (.slice none 0 0) 1 24 Tryz.underlying45 hi0 hzz hzs hzb rfl (by decide) (.slice (some ⟨q, 0, none⟩) N cq) N vs' (by rfl) (World.ownsRow.alloc (owns_below HOWNQ.out HK4.out) (.cells #[.slice (some ⟨gn, 0, none⟩) L cn] 48 (0, 0))) ⟨V4.heap.size, 0, none⟩ 1 1 [.slice (some ⟨gn, 0, none⟩) L cn] (by rfl) (by rfl) (cells_one rfl _) (by simp [Value.oneCell']) (by decide) (by unfold maxLen; omega) (by omega) (by have := HK4.out.size; simp; omega) (V4.heap.size + 1) (by simp) ?_
                intro q9 c9 w9 hown9 hgr9 hf9 hlt9
                have hne9 : ∀ b, b < V.heap.size → w9.heap[b]? = wq.heap[b]? := fun b hb => by rw [hgr9.block b (by have := HK4.out.size; simp; omega) (fun e => by simp only [Value.ownBlock, Option.some.injEq] at e; omega), HB5.out.block b (by have := HK4.out.size; omega), HK4.out.block b (by omega)]
                have HNX : Hid (Row ((rowE L).inn (fun b => V.heap.size ≤ b)) 48 V.heap.size (fs' ++ [lessV u y d]) (.slice (some ⟨q9, 0, none⟩) (N + 1) c9) (vs' ++ [.slice (some ⟨gn, 0, none⟩) L cn]) w9) := Lib.hid (by
                  have h := ROW.out.next (a := lessV u y d) (cs := [.slice (some ⟨gn, 0, none⟩) L cn]) (g := q9) (cap := c9) (w1 := V4) (w1' := V4.alloc (.cells #[.slice (some ⟨gn, 0, none⟩) L cn] 48 (0, 0))) HK4.out ⟨gn, cn, rfl, hL0, ⟨fun e => by simp only [Value.ownBlock, Option.some.injEq] at e; omega, by omega⟩, fun j hj => HNU.out.cell hj⟩ HB5.out (by rw [← HNN.out]; exact hown9) hgr9 (by
                    rcases hf9 with h | h
                    · exact .inl h
                    · right; omega)
                  rw [← HNN.out] at h
                  exact h)
                have HB9 : Hid (Below V.heap.size V w9) := Lib.hid (((below_step HBQ.out HK4.out).trans (HB5.out.mono (by have := HK4.out.size; omega))).grown hgr9 (by have := HK4.out.size; simp; omega) (fun k e => by simp only [Value.ownBlock, Option.some.injEq] at e; omega))
                have g2 := (World.cell?_of_block (w := wq) (hne9 gr hgrV)).trans f0
                have g3 := (World.cell?_of_block (w := wq) (hne9 gk hgkV)).trans f1
                clear hown9 hgr9 hf9 hlt9 hne9
                refine hK.out _ _ ?_ (fun hHeld => ?_)
                · exact ⟨g2, g3⟩
                clear hK K
                (try simp only [Act.put, List.setIfInBounds_toArray, List.set_cons_zero, List.set_cons_succ])
                refine wpAnyH_take (i := 16) (oi := { dst := some 13, op := Op.assign (Operand.tmp 86), type := 45, pos := "l6_duals.go:94", after := #[{ on := 15, ground := Ground.data }, { on := 15, ground := Ground.chain }, { on := 0, ground := Ground.phase }, { on := 1, ground := Ground.phase }, { on := 2, ground := Ground.phase }, { on := 3, ground := Ground.phase }, { on := 4, ground := Ground.phase }, { on := 5, ground := Ground.phase }, { on := 6, ground := Ground.phase }, { on := 7, ground := Ground.phase }, { on := 8, ground := Ground.phase }, { on := 9, ground := Ground.phase }, { on := 10, ground := Ground.phase }, { on := 11, ground := Ground.phase }, { on := 12, ground := Ground.phase }, { on := 13, ground := Ground.phase }, { on := 14, ground := Ground.phase }, { on := 15, ground := Ground.phase }], guard := none }) (v := ?_) rfl (by kernel_rfl) (by kernel_rfl) (by kernel_rfl) (fun _ _ _ h => h) (Or.inl ⟨by rfl, ?_⟩) (by assumption) ?_
                rotate_left
                · (intro w hSw; (try dsimp only at hSw); go_simp <;> with_reducible rfl)
                (try simp only [Act.put, List.setIfInBounds_toArray, List.set_cons_zero, List.set_cons_succ])
                refine wpAnyH_done (by kernel_rfl) ?_ _
                go_wp2_with fail
                go_roundw
                case rel => exact ⟨i + 1, q9, c9, N + 1, fs' ++ [lessV u y d], _, by omega, by go_num, rfl, by rw [List.length_append, ← HNN.out]; rfl, by omega, HNX.out, fun z hz => by
                    rcases List.mem_append.1 hz with hz | hz
                    · exact HALL.out z hz
                    · simp only [List.mem_singleton] at hz
                      exact ⟨u, HUM.out, by rw [hz, HY.out]⟩, fun i' h h' => by
                    by_cases e : i' = i
                    · subst e
                      right
                      rw [List.mem_append]
                      right
                      rw [List.mem_singleton, ← HU.out, HY.out]
                    · rcases HHAS.out i' h (by omega) with h3 | h3
                      · exact .inl h3
                      · exact .inr (List.mem_append.2 (.inl h3)), HB9.out⟩
                case measure => simp [intOf]; omega
            · have him : i = m := by omega
              have HPV : Hid (RedInv L (c + 1) (· ∈ fs) (putB s c d) fs') := Lib.hid (INV.out.pivot hlt HRM.out HX.out hx1 hx2 (by rw [HD.out, HIV.out]; rw [Int.zero_sub]) HALL.out (fun z hz => by
                obtain ⟨j, hj, rfl⟩ := List.getElem_of_mem hz
                rcases HHAS.out j hj (by rw [him, HM.out]; exact hj) with h3 | h3
                · left
                  rw [HR.out]
                  subst h3; rfl
                · exact .inr h3))
              have RWL := Lib.hid (RWQ.out.left (gr' := q) (rest' := fs') (by
                have h1 := ROW.out.rd.inn (fun b e h0 => ROW.out.rd_from b e h0)
                exact h1.weak (E := rowE L) Nat.one_pos (fun b hb _ => by have := RWV.out.lt; omega)))
              have hNl : N ≤ 100 := by omega
              have HDC : Hid (∀ j, j < L → wq.cell? ⟨gd, j, none⟩ = some (.int .i64 (d j))) := Lib.hid (fun j hj => keep1 HBQ.out (HNUM.out.cell hj))
              have HBW := Lib.hid (below_step HBZV.out HBQ.out)
              have HBS := Lib.hid INV.out.base
              obtain ⟨hsL, hhs⟩ : ∃ hsL, hsL = headL s c := ⟨_, rfl⟩
              rw [← hhs] at RWL HK
              have HHS := Lib.hid hhs
              clear him hhs
              go_wp2_with fail
              go_loopw [15] (fun iv wr => ∃ (i : Nat) (vs2 : List Value), i ≤ K ∧ iv = .int .i64 i ∧ RedW L w.heap.size wr go co gh ch q K K (fun i' => if i' < i then lessV (ofH s hsL i') (ofH s hsL i' c) d else ofH s hsL i') hsL vs2 fs' ∧ (∀ j, j < L → wr.cell? ⟨gd, j, none⟩ = some (.int .i64 (d j))) ∧ Below w.heap.size w wr) (fun iv _ => K - (intOf iv).toNat)
              case atStart => exact ⟨0, vs, Nat.zero_le _, rfl, RWL.out.congr (fun i' _ j _ => by rw [if_neg (by omega)]), HDC.out, HBW.out⟩
              case round =>
                obtain ⟨wp, rfl⟩ : ∃ wp : World, wp = wr := ⟨_, rfl⟩
                obtain ⟨i, vs2, hi, rfl, hrw, hdc, hBp⟩ := hrel
                have RWP := Lib.hid hrw
                have HDP := Lib.hid hdc
                have HBP := Lib.hid hBp
                clear hrw hdc hBp
                by_cases hil : i < K
                · have i0' : (0 : Int) ≤ (i : Int) := by omega
                  obtain ⟨gk, ck, hvs, hk1, hk2, ej⟩ := RWP.out.row i hil
                  rw [if_neg (by omega)] at ej
                  have hck := RWP.out.own.cellAt (g := go) i (by omega)
                  rw [hvs] at hck
                  have hfz := RWP.out.own.frozenAt (g := go) i
                  have ej1 := ej c hlt
                  obtain ⟨u, hu⟩ : ∃ u, u = ofH s hsL i := ⟨_, rfl⟩
                  rw [← hu] at ej ej1
                  have hur : ∀ j, 0 ≤ u j ∧ u j ≤ 100 := fun j => by rw [hu]; exact HBS.out.rng _ j
                  have HUR := Lib.hid hur
                  obtain ⟨y, hy⟩ : ∃ y, y = u c := ⟨_, rfl⟩
                  rw [← hy] at ej1
                  have hyr : 0 ≤ y ∧ y ≤ 100 := by rw [hy]; exact hur c
                  have HU := Lib.hid (And.intro hu hy)
                  have HEJ := Lib.hid ej
                  have hgol := RWP.out.lt
                  have HLS := Lib.hid (fun (W : World) (hb : Below wp.heap.size wp W) => l6qLess_any L u d y (some ⟨gk, 0, none⟩) (some ⟨gd, 0, none⟩) ck cd W (by omega) (by omega) (fun j _ => HUR.out j) (fun j _ => hdr.out j) (fun j hj => ⟨gk, 0, rfl, by rw [Nat.zero_add]; exact keep1 hb (HEJ.out j hj)⟩) (fun j hj => ⟨gd, 0, rfl, by rw [Nat.zero_add]; exact keep1 hb (HDP.out j hj)⟩))
                  clear ej hvs hu hy hur
                  go_wp2_with fail
                  refine wp_region_heldZ (z := 16) (S := (fun w' => w'.cell? ⟨go, i, none⟩ = some (.slice (some ⟨gk, 0, none⟩) L ck) ∧ w'.cell? ⟨gk, c, none⟩ = some (.int .i64 y))) (by kernel_rfl) (by exact ⟨hck, ej1⟩) (fun hHeld => ?_)
                  refine wpAnyZ_take (i := 0) (oi := { dst := some 94, op := Op.move (Operand.tmp 6), type := 45, pos := "l6_duals.go:99", after := #[], guard := none }) (v := ?_) rfl (by kernel_rfl) (by kernel_rfl) (by kernel_rfl) (by kernel_rfl) (fun _ _ _ h => h) (Or.inl ⟨by rfl, ?_⟩) (by assumption) ?_
                  rotate_left
                  · (intro w hSw; (try dsimp only at hSw); go_simp <;> with_reducible rfl)
                  (try simp only [Act.put, List.setIfInBounds_toArray, List.set_cons_zero, List.set_cons_succ])
                  refine wpAnyZ_take (i := 1) (oi := { dst := some 95, op := Op.move (Operand.tmp 15), type := 3, pos := "l6_duals.go:99", after := #[], guard := none }) (v := ?_) rfl (by kernel_rfl) (by kernel_rfl) (by kernel_rfl) (by kernel_rfl) (fun _ _ _ h => h) (Or.inl ⟨by rfl, ?_⟩) (by assumption) ?_
                  rotate_left
                  · (intro w hSw; (try dsimp only at hSw); go_simp <;> with_reducible rfl)
                  (try simp only [Act.put, List.setIfInBounds_toArray, List.set_cons_zero, List.set_cons_succ])
                  refine wpAnyZ_take (i := 2) (oi := { dst := some 96, op := Op.move (Operand.tmp 6), type := 45, pos := "l6_duals.go:99", after := #[], guard := none }) (v := ?_) rfl (by kernel_rfl) (by kernel_rfl) (by kernel_rfl) (by kernel_rfl) (fun _ _ _ h => h) (Or.inl ⟨by rfl, ?_⟩) (by assumption) ?_
                  rotate_left
                  · (intro w hSw; (try dsimp only at hSw); go_simp <;> with_reducible rfl)
                  (try simp only [Act.put, List.setIfInBounds_toArray, List.set_cons_zero, List.set_cons_succ])
                  refine wpAnyZ_take (i := 3) (oi := { dst := some 97, op := Op.move (Operand.tmp 15), type := 3, pos := "l6_duals.go:99", after := #[], guard := none }) (v := ?_) rfl (by kernel_rfl) (by kernel_rfl) (by kernel_rfl) (by kernel_rfl) (fun _ _ _ h => h) (Or.inl ⟨by rfl, ?_⟩) (by assumption) ?_
                  rotate_left
                  · (intro w hSw; (try dsimp only at hSw); go_simp <;> with_reducible rfl)
                  (try simp only [Act.put, List.setIfInBounds_toArray, List.set_cons_zero, List.set_cons_succ])
                  refine wpAnyZ_take (i := 4) (oi := { dst := some 98, op := Op.indexAddr 45 (Operand.tmp 96) (Operand.tmp 97), type := 0, pos := "l6_duals.go:99", after := #[{ on := 2, ground := Ground.data }, { on := 3, ground := Ground.data }], guard := none }) (v := ?_) rfl (by kernel_rfl) (by kernel_rfl) (by kernel_rfl) (by kernel_rfl) (fun _ _ _ h => h) (Or.inl ⟨by rfl, ?_⟩) (by assumption) ?_
                  rotate_left
                  · (intro w hSw; (try dsimp only at hSw); go_simp <;> with_reducible rfl)
                  (try simp only [Act.put, List.setIfInBounds_toArray, List.set_cons_zero, List.set_cons_succ])
                  refine wpAnyZ_take (i := 5) (oi := { dst := some 99, op := Op.load 48 (Operand.tmp 98), type := 48, pos := "l6_duals.go:99", after := #[{ on := 4, ground := Ground.data }], guard := none }) (v := ?_) rfl (by kernel_rfl) (by kernel_rfl) (by kernel_rfl) (by kernel_rfl) (fun _ _ _ h => h) (Or.inl ⟨by rfl, ?_⟩) (by assumption) ?_
                  rotate_left
                  · (intro w hSw; (try dsimp only at hSw); go_simp <;> with_reducible rfl)
                  (try simp only [Act.put, List.setIfInBounds_toArray, List.set_cons_zero, List.set_cons_succ])
                  refine wpAnyZ_take (i := 6) (oi := { dst := some 100, op := Op.move (Operand.tmp 6), type := 45, pos := "l6_duals.go:99", after := #[], guard := none }) (v := ?_) rfl (by kernel_rfl) (by kernel_rfl) (by kernel_rfl) (by kernel_rfl) (fun _ _ _ h => h) (Or.inl ⟨by rfl, ?_⟩) (by assumption) ?_
                  rotate_left
                  · (intro w hSw; (try dsimp only at hSw); go_simp <;> with_reducible rfl)
                  (try simp only [Act.put, List.setIfInBounds_toArray, List.set_cons_zero, List.set_cons_succ])
                  refine wpAnyZ_take (i := 7) (oi := { dst := some 101, op := Op.move (Operand.tmp 15), type := 3, pos := "l6_duals.go:99", after := #[], guard := none }) (v := ?_) rfl (by kernel_rfl) (by kernel_rfl) (by kernel_rfl) (by kernel_rfl) (fun _ _ _ h => h) (Or.inl ⟨by rfl, ?_⟩) (by assumption) ?_
                  rotate_left
                  · (intro w hSw; (try dsimp only at hSw); go_simp <;> with_reducible rfl)
                  (try simp only [Act.put, List.setIfInBounds_toArray, List.set_cons_zero, List.set_cons_succ])
                  refine wpAnyZ_take (i := 8) (oi := { dst := some 102, op := Op.indexAddr 45 (Operand.tmp 100) (Operand.tmp 101), type := 0, pos := "l6_duals.go:99", after := #[{ on := 6, ground := Ground.data }, { on := 7, ground := Ground.data }], guard := none }) (v := ?_) rfl (by kernel_rfl) (by kernel_rfl) (by kernel_rfl) (by kernel_rfl) (fun _ _ _ h => h) (Or.inl ⟨by rfl, ?_⟩) (by assumption) ?_
                  rotate_left
                  · (intro w hSw; (try dsimp only at hSw); go_simp <;> with_reducible rfl)
                  (try simp only [Act.put, List.setIfInBounds_toArray, List.set_cons_zero, List.set_cons_succ])
                  refine wpAnyZ_take (i := 9) (oi := { dst := some 103, op := Op.load 48 (Operand.tmp 102), type := 48, pos := "l6_duals.go:99", after := #[{ on := 8, ground := Ground.data }], guard := none }) (v := ?_) rfl (by kernel_rfl) (by kernel_rfl) (by kernel_rfl) (by kernel_rfl) (fun _ _ _ h => h) (Or.inl ⟨by rfl, ?_⟩) (by assumption) ?_
                  rotate_left
                  · (intro w hSw; (try dsimp only at hSw); go_simp <;> with_reducible rfl)
                  (try simp only [Act.put, List.setIfInBounds_toArray, List.set_cons_zero, List.set_cons_succ])
                  refine wpAnyZ_take (i := 10) (oi := { dst := some 104, op := Op.move (Operand.tmp 8), type := 3, pos := "l6_duals.go:99", after := #[], guard := none }) (v := ?_) rfl (by kernel_rfl) (by kernel_rfl) (by kernel_rfl) (by kernel_rfl) (fun _ _ _ h => h) (Or.inl ⟨by rfl, ?_⟩) (by assumption) ?_
                  rotate_left
                  · (intro w hSw; (try dsimp only at hSw); go_simp <;> with_reducible rfl)
                  (try simp only [Act.put, List.setIfInBounds_toArray, List.set_cons_zero, List.set_cons_succ])
                  refine wpAnyZ_take (i := 11) (oi := { dst := some 105, op := Op.indexAddr 48 (Operand.tmp 103) (Operand.tmp 104), type := 0, pos := "l6_duals.go:99", after := #[{ on := 9, ground := Ground.data }, { on := 10, ground := Ground.data }], guard := none }) (v := ?_) rfl (by kernel_rfl) (by kernel_rfl) (by kernel_rfl) (by kernel_rfl) (fun _ _ _ h => h) (Or.inl ⟨by rfl, ?_⟩) (by assumption) ?_
                  rotate_left
                  · (intro w hSw; (try dsimp only at hSw); go_simp <;> with_reducible rfl)
                  (try simp only [Act.put, List.setIfInBounds_toArray, List.set_cons_zero, List.set_cons_succ])
                  refine wpAnyZ_take (i := 12) (oi := { dst := some 106, op := Op.load 3 (Operand.tmp 105), type := 3, pos := "l6_duals.go:99", after := #[{ on := 11, ground := Ground.data }], guard := none }) (v := ?_) rfl (by kernel_rfl) (by kernel_rfl) (by kernel_rfl) (by kernel_rfl) (fun _ _ _ h => h) (Or.inl ⟨by rfl, ?_⟩) (by assumption) ?_
                  rotate_left
                  · (intro w hSw; (try dsimp only at hSw); go_simp <;> with_reducible rfl)
                  (try simp only [Act.put, List.setIfInBounds_toArray, List.set_cons_zero, List.set_cons_succ])
                  refine wpAnyZ_take (i := 13) (oi := { dst := some 107, op := Op.move (Operand.tmp 12), type := 48, pos := "l6_duals.go:99", after := #[], guard := none }) (v := ?_) rfl (by kernel_rfl) (by kernel_rfl) (by kernel_rfl) (by kernel_rfl) (fun _ _ _ h => h) (Or.inl ⟨by rfl, ?_⟩) (by assumption) ?_
                  rotate_left
                  · (intro w hSw; (try dsimp only at hSw); go_simp <;> with_reducible rfl)
                  (try simp only [Act.put, List.setIfInBounds_toArray, List.set_cons_zero, List.set_cons_succ])
                  refine wpAnyZ_one (i := 14) (o := { dst := some 108, op := Op.call { callee := Callee.value (Operand.func 47), args := #[Operand.tmp 99, Operand.tmp 106, Operand.tmp 107], argTypes := #[48, 3, 48] }, type := 48, pos := "l6_duals.go:99", after := #[{ on := 5, ground := Ground.data }, { on := 12, ground := Ground.data }, { on := 13, ground := Ground.data }], guard := none }) (by kernel_rfl) rfl (fun K hK => ?_)
                  go_simp
                  go_wp2_with fail
                  refine (HLS.out _ (Below.refl _ _).drew).mono ?_
                  rintro e V6 ⟨hb6, gn, cn, rfl, hgn, hcn, hnum⟩
                  have hk6 : Below wp.heap.size wp V6 := (Below.refl _ _).drew.trans hb6
                  have m0 := keep1 hk6 hck
                  have m1 := keep1 hk6 ej1
                  have m2 := keepf hk6 hck hfz
                  have HK6 := Lib.hid hk6
                  have HNU6 := Lib.hid hnum
                  have hgn6 : wp.heap.size ≤ gn := hgn
                  clear hb6 hk6 hnum hgn
                  go_wp2_with fail
                  refine hK.out _ _ ?_ (fun hHeld => ?_)
                  · exact ⟨m0, m1⟩
                  clear hK K
                  (try simp only [Act.put, List.setIfInBounds_toArray, List.set_cons_zero, List.set_cons_succ])
                  refine wpAnyZ_take (i := 15) (oi := { dst := some 109, op := Op.indexAddr 45 (Operand.tmp 94) (Operand.tmp 95), type := 0, pos := "l6_duals.go:99", after := #[{ on := 0, ground := Ground.data }, { on := 1, ground := Ground.data }, { on := 0, ground := Ground.phase }, { on := 1, ground := Ground.phase }, { on := 2, ground := Ground.phase }, { on := 3, ground := Ground.phase }, { on := 4, ground := Ground.phase }, { on := 5, ground := Ground.phase }, { on := 6, ground := Ground.phase }, { on := 7, ground := Ground.phase }, { on := 8, ground := Ground.phase }, { on := 9, ground := Ground.phase }, { on := 10, ground := Ground.phase }, { on := 11, ground := Ground.phase }, { on := 12, ground := Ground.phase }, { on := 13, ground := Ground.phase }, { on := 14, ground := Ground.phase }], guard := none }) (v := ?_) rfl (by kernel_rfl) (by kernel_rfl) (by kernel_rfl) (by kernel_rfl) (fun _ _ _ h => h) (Or.inl ⟨by rfl, ?_⟩) (by assumption) ?_
                  rotate_left
                  · (intro w hSw; (try dsimp only at hSw); go_simp <;> with_reducible rfl)
                  (try simp only [Act.put, List.setIfInBounds_toArray, List.set_cons_zero, List.set_cons_succ])
                  refine wpAnyZ_last (o := { dst := none, op := Op.store 48 (Operand.tmp 109) (Operand.tmp 108), type := 0, pos := "l6_duals.go:99", after := #[{ on := 15, ground := Ground.data }, { on := 14, ground := Ground.data }, { on := 14, ground := Ground.chain }, { on := 0, ground := Ground.phase }, { on := 1, ground := Ground.phase }, { on := 2, ground := Ground.phase }, { on := 3, ground := Ground.phase }, { on := 4, ground := Ground.phase }, { on := 5, ground := Ground.phase }, { on := 6, ground := Ground.phase }, { on := 7, ground := Ground.phase }, { on := 8, ground := Ground.phase }, { on := 9, ground := Ground.phase }, { on := 10, ground := Ground.phase }, { on := 11, ground := Ground.phase }, { on := 12, ground := Ground.phase }, { on := 13, ground := Ground.phase }, { on := 14, ground := Ground.phase }], guard := none }) (by kernel_rfl) rfl (by kernel_rfl) (fun K hK => ?_)
                  go_simp
                  go_wp2_with fail
                  refine hK.out _ _ ?_
                  have RWN := Lib.hid ((RWP.out.step HK6.out).store (i := i) (g := gn) (c := cn) (f := lessV u y d) hil (by omega) (by omega) (fun j hj => HNU6.out.cell hj))
                  have HDN : Hid (∀ j, j < L → (V6.setCell ⟨go, i, none⟩ (.slice (some ⟨gn, 0, none⟩) L cn)).cell? ⟨gd, j, none⟩ = some (.int .i64 (d j))) := Lib.hid (fun j hj => by
                    have h1 := keep1 HK6.out (HDP.out j hj)
                    rw [World.cell?_of_block (w := V6) (Below.heap_setCell _ _ _ _ (by simp only [ne_eq]; exact hgdg))]
                    exact h1)
                  have HBN := Lib.hid ((below_step HBP.out HK6.out).setCell (p := ⟨go, i, none⟩) (by simp only; omega) (.slice (some ⟨gn, 0, none⟩) L cn))
                  clear hK K
                  go_wp2_with fail
                  go_roundw
                  case rel => exact ⟨i + 1, _, by omega, by go_num, RWN.out.congr (fun i' hi' j hj => by
                      have hu := HU.out
                      by_cases e : i' = i
                      · subst e
                        rw [if_pos rfl, if_pos (by omega), hu.2, hu.1]
                      · rw [if_neg e]
                        by_cases e2 : i' < i
                        · rw [if_pos e2, if_pos (by omega)]
                        · rw [if_neg e2, if_neg (by omega)]), HDN.out, HBN.out⟩
                  case measure => simp [intOf]; omega
                · have hiK : i = K := by omega
                  have RWF : Hid (RedW L w.heap.size wp go co gh ch q K K (fun i' => lessV (ofH s hsL i') (ofH s hsL i' c) d) hsL vs2 fs') := Lib.hid (RWP.out.congr (fun i' hi' j _ => by rw [if_pos (by omega)]))
                  have hgol := RWF.out.lt
                  have hgdw : gd < wp.heap.size := World.block_lt_of_cell? wp _ (HDP.out c hlt)
                  have HOW1 := Lib.hid (World.ownsRow.alloc RWF.out.own (.cells #[.slice (some ⟨gd, 0, none⟩) L cd] 48 (0, 0)))
                  have hzp := HBP.out.size
                  clear hiK
                  go_wp2_with (first
                    | (at_builtin; refine wpList_append_own_at _ rfl _ _ 45 rfl w.heap.size 48 i0 (.slice none 0 0) 1 24 Tryz.underlying45 hi0 hzz hzs hzb rfl (by decide) (.slice (some ⟨go, 0, none⟩) K co) K vs2 rfl HOW1.out ⟨wp.heap.size, 0, none⟩ 1 1 [.slice (some ⟨gd, 0, none⟩) L cd] rfl rfl (cells_one rfl _) (by simp [Value.oneCell']) (by unfold maxLen; omega) (by omega) (by simp; omega) ?_; intro v5 w5 hown5 hg5 hnil5 hat5; obtain ⟨g5, c5, rfl, _, _, _⟩ := owns_some hown5 (fun e => by have := hnil5.1 e; simp at this); have hb5 : Below wp.heap.size wp (wp.alloc (.cells #[.slice (some ⟨gd, 0, none⟩) L cd] 48 (0, 0))) := (Below.refl _ _).alloc (Nat.le_refl _) _; have RW5 := Lib.hid (RWF.out.push (g := gd) (c := cd) (f := d) hgdg hgdh HDP.out hgdw hb5 hown5 hg5 (by rcases hat5 with h | h; left; simpa [Value.ownBlock] using h; right; simp [Value.ownBlock] at h; omega)); have HB5 := Lib.hid ((HBP.out.alloc hzp (.cells #[.slice (some ⟨gd, 0, none⟩) L cd] 48 (0, 0))).grown hg5 (by simp; omega) (fun k e => by simp only [Value.ownBlock, Option.some.injEq] at e; omega)); have HOW2 := Lib.hid (World.ownsRow.alloc RW5.out.heads (.cells #[.int .i64 (c : Int)] 3 (0, 0))); have hz5 := HB5.out.size; clear hown5 hg5 hnil5 hat5 hb5)
                    | (at_builtin; refine wpList_append_own_at _ rfl _ _ 48 rfl w.heap.size 3 j0 (.int .i64 0) 1 8 Tryz.underlying48 hj0 hyz hys hyb rfl (by decide) (.slice (some ⟨gh, 0, none⟩) K ch) K (hsL.map fun h : Nat => Value.int .i64 (h : Int)) rfl HOW2.out ⟨w5.heap.size, 0, none⟩ 1 1 [.int .i64 (c : Int)] rfl rfl (cells_one rfl _) (by simp [Value.oneCell']) (by unfold maxLen; omega) (by omega) (by simp; omega) ?_; intro v6 w6 hown6 hg6 hnil6 hat6; obtain ⟨g6, c6, rfl, _, _, _⟩ := owns_some hown6 (fun e => by have := hnil6.1 e; simp at this); have hb6 : Below w5.heap.size w5 (w5.alloc (.cells #[.int .i64 (c : Int)] 3 (0, 0))) := (Below.refl _ _).alloc (Nat.le_refl _) _; have RW6 := Lib.hid (RW5.out.pushH (c := c) hb6 hown6 hg6 (by rcases hat6 with h | h; left; simpa [Value.ownBlock] using h; right; simp [Value.ownBlock] at h; omega)); have HB6 := Lib.hid ((HB5.out.alloc hz5 (.cells #[.int .i64 (c : Int)] 3 (0, 0))).grown hg6 (by simp; omega) (fun k e => by simp only [Value.ownBlock, Option.some.injEq] at e; have := RW5.out.lt; omega)); clear hown6 hg6 hnil6 hat6 hb6))
                  have hdc1 : Hid (d c = 1) := Lib.hid (by
                    have h1 := HPV.out.base
                    have hm := inv101_mul x (by omega) (by omega)
                    rw [HD.out]
                    unfold lessV
                    show ((0:Int) - -(iv:Int) * r c) % 101 = 1
                    rw [HX.out]
                    rw [← HIV.out] at hm
                    have : ((x * iv % 101 : Nat) : Int) = 1 := by rw [hm]; rfl
                    have h2 : (0 : Int) - -(iv : Int) * (x : Int) = ((x * iv : Nat) : Int) := by rw [Int.neg_mul, Int.natCast_mul, Int.mul_comm (x : Int)]; omega
                    rw [h2]
                    simpa using this)
                  have hdlow : Hid (∀ j, j < c → d j = 0) := Lib.hid (fun j hj => by
                    rw [HD.out]
                    unfold lessV
                    rw [INV.out.zero r HRM.out j hj, Int.mul_zero]; rfl)
                  have HHP : Hid (headL (putB s c d) (c + 1) = hsL ++ [c]) := Lib.hid (by rw [headL_put HBS.out hdc1.out hdlow.out, HHS.out])
                  have hlk : Hid (hsL.length = K) := Lib.hid HK.out.symm
                  have RWE : Hid (RedW L w.heap.size w6 g5 c5 g6 c6 q (K + 1) (K + 1) (ofH (putB s c d) (headL (putB s c d) (c + 1))) (headL (putB s c d) (c + 1)) (vs2 ++ [.slice (some ⟨gd, 0, none⟩) L cd]) fs') := Lib.hid (by
                    rw [HHP.out]
                    refine RW6.out.congr fun i' hi' j hj => ?_
                    have hlk := hlk.out
                    unfold ofH
                    by_cases e : i' = K
                    · subst e
                      rw [if_pos rfl, List.getD_eq_getElem?_getD, List.getElem?_append_right (by omega), hlk, Nat.sub_self]
                      simp only [List.getElem?_cons_zero, Option.getD_some]
                      unfold putB
                      rw [if_pos rfl]
                    · have hik : i' < hsL.length := by omega
                      rw [if_neg e, List.getD_eq_getElem?_getD, List.getD_eq_getElem?_getD, List.getElem?_append_left hik, List.getElem?_eq_getElem hik, Option.getD_some]
                      have hm := headL_lt s c hsL[i'] (by rw [← HHS.out]; exact List.getElem_mem hik)
                      unfold putB lessV
                      rw [if_neg (by omega)])
                  have hKK : Hid (K + 1 = (headL (putB s c d) (c + 1)).length) := Lib.hid (by rw [HHP.out, List.length_append, hlk.out]; rfl)
                  go_wp2_with fail
                  go_roundw
                  case rel => exact ⟨c + 1, N, cq, g5, c5, g6, c6, q, K + 1, putB s c d, fs', vs2 ++ [.slice (some ⟨gd, 0, none⟩) L cd], by omega, by go_num, rfl, HNN.out, by omega, rfl, rfl, hKK.out, by omega, HPV.out, RWE.out, HB6.out⟩
                  case measure => simp [intOf]; omega
    · have hcd : decide ((c : Int) < (L : Int)) = false := decide_eq_false (by omega)
      have hcL' : c = L := by omega
      have HCL := Lib.hid hcL'
      clear hcL'
      go_wp2_with fail
      go_ret2
      have h1 := INV.out
      have h2 := RW.out
      have h3 := HK.out
      rw [HCL.out] at h1 h2 h3
      exact ⟨HB.out, s, rest, go, co, gh, ch, gr, K, vs, h1, rfl, h3, h2⟩

end Go.Proofs.YtoeebipahifpcaaGreat
end
section
/- Rows written as sums, by the model. -/
namespace Go.Proofs.YtoeebipahifpcaaGreat
open Go.RowKit

/-- The terms of a row in the columns below c. -/
def rowTx (ts : List T) (f : Nat → Int) : Nat → List (Int × ByteArray)
  | 0 => []
  | c + 1 => rowTx ts f c ++ (if h : c < ts.length then (if f c = 0 then [] else [(f c, ⟨(ts[c]).text.toArray⟩)]) else [])

theorem rowTx_le (ts : List T) (f : Nat → Int) : ∀ c, (rowTx ts f c).length ≤ c
  | 0 => Nat.le_refl _
  | c + 1 => by
    have := rowTx_le ts f c
    rw [rowTx, List.length_append]
    split
    · split
      · simp; omega
      · simp; omega
    · simp; omega

/-- A list of terms, among such lists. -/
def tmsE : Elt (List (Int × ByteArray)) where
  size := 1
  R w P xs cs := ∃ g c, cs = [.slice (some ⟨g, 0, none⟩) xs.length c] ∧ (0 < xs.length → P g) ∧ TermL w g xs
  len := by rintro w P f cs ⟨g, c, rfl, _⟩; rfl
  one := by
    rintro w P f cs ⟨g, c, rfl, _⟩ u hu
    simp at hu
    subst hu
    rfl
  keep := by
    rintro w w' P P' xs cs hk hp ⟨g, c, rfl, hg, hc⟩
    refine ⟨g, c, rfl, fun h => hp g (hg h) (World.block_lt_of_cell? w _ (hc 0 h).1), fun j hj => ?_⟩
    have hP := hg (by omega)
    exact ⟨hk _ _ hP (hc j hj).1, hk _ _ hP (hc j hj).2⟩

def sumsOf (ts : List T) (of : Nat → Nat → Int) (K : Nat) : List (List (Int × ByteArray)) := (List.range K).map fun i => rowTx ts (of i) ts.length
theorem sumsOf_length (ts : List T) (of : Nat → Nat → Int) (K : Nat) : (sumsOf ts of K).length = K := by simp [sumsOf]
theorem sumsOf_next (ts : List T) (of : Nat → Nat → Int) (i : Nat) : sumsOf ts of (i + 1) = sumsOf ts of i ++ [rowTx ts (of i) ts.length] := by simp [sumsOf, List.range_succ]

theorem trm_snoc {ty : TypeId} {base : Nat} {us : List (Int × ByteArray)} {v : Value} {xs : List Value} {w w2 : World} {a : Int × ByteArray} {g cap : Nat} (h : Row trm ty base us v xs w)
    (hown : w2.ownsRow base ty 2 (.slice (some ⟨g, 0, none⟩) (us.length + 1) cap) (us.length + 1) (xs ++ [.int .i64 a.1, .string a.2])) : Row trm ty base (us ++ [a]) (.slice (some ⟨g, 0, none⟩) (us.length + 1) cap) (xs ++ [.int .i64 a.1, .string a.2]) w2 where
  own := by rw [List.length_append]; exact hown
  reps := fun k hk => by
    have hl : xs.length = us.length * 2 := h.own.1
    by_cases e : k < us.length
    · obtain ⟨cs, h1, h2⟩ := h.reps k e
      refine ⟨cs, fun j hj => ?_, by rw [List.getElem_append_left e]; exact h2⟩
      have hj2 : j < 2 := hj
      rw [List.getElem?_append_left (by show k * 2 + j < _; omega)]
      exact h1 j hj
    · have hk2 : k = us.length := by rw [List.length_append] at hk; simp at hk; omega
      subst hk2
      refine ⟨[.int .i64 a.1, .string a.2], fun j hj => ?_, ?_⟩
      · have hj2 : j < 2 := hj
        show (xs ++ _)[us.length * 2 + j]? = _
        rw [List.getElem?_append_right (by omega)]
        congr 1; omega
      · rw [List.getElem_append_right (Nat.le_refl _)]
        simp [trm]

/-- What 'l6qSums' answers. -/
def SumsPost (xss : List (List (Int × ByteArray))) (w : World) (e : Ending) (w' : World) : Prop :=
  Below w.heap.size w w' ∧ ∃ g c, e = .returned (.slice (some ⟨g, 0, none⟩) xss.length c) ∧ w.heap.size ≤ g ∧ Rd tmsE w' (fun _ => True) (some ⟨g, 0, none⟩) xss

theorem infoTmL : (Tryz.prog.info? 38).map (fun i => (i.zero, i.size, i.bytes)) = some (some (.slice none 0 0), 1, 24) := by kernel_rfl

set_option maxRecDepth 100000 in
set_option maxHeartbeats 4000000 in
theorem l6qSums_any (ts : List T) (L : Nat) (hL : L = ts.length) (of : Nat → Nat → Int) (K : Nat) (gt ct gr cr : Nat) (w : World) (hL18 : L ≤ 18) (hK : K ≤ 100) (hts : ∀ t ∈ ts, t.wf ∧ t.leaves ≤ 1000 ∧ t.nodes ≤ 1000) (hrt : Rd trS w (fun _ => True) (some ⟨gt, 0, none⟩) ts)
    (hrw : ∀ i, i < K → ∃ g c, w.cell? ⟨gr, i, none⟩ = some (.slice (some ⟨g, 0, none⟩) L c) ∧ ∀ j, j < L → w.cell? ⟨g, j, none⟩ = some (.int .i64 (of i j))) :
    Calls Tryz.prog 29 #[.slice (some ⟨gt, 0, none⟩) L ct, .slice (some ⟨gr, 0, none⟩) K cr] w (SumsPost (sumsOf ts of K) w) := by
  have HLL := Lib.hid hL
  have HTS := Lib.hid hts
  have HRT := Lib.hid hrt
  have HRW := Lib.hid hrw
  obtain ⟨i0, hi0, hzz, hzs, hzb⟩ := info_parts infoTm2
  obtain ⟨j0, hj0, hyz, hys, hyb⟩ := info_parts infoTmL
  clear hL hts hrt hrw
  go_enter Tryz.func29, Tryz.ntmps29
  go_wp2_with fail
  go_loopw [5, 6] (fun ov iv wr => ∃ (i : Nat) (va : Option Addr) (vc : Nat) (vs : List Value), i ≤ K ∧ va ≠ none ∧ iv = .int .i64 i ∧ ov = .slice va i vc ∧ Row tmsE 38 w.heap.size (sumsOf ts of i) (.slice va i vc) vs wr ∧ Below w.heap.size w wr) (fun _ iv _ => K - (intOf iv).toNat)
  case atStart =>
    refine ⟨0, some ⟨w.heap.size, 0, none⟩, 0, [], Nat.zero_le _, by simp, rfl, rfl, ?_, (Below.refl _ _).alloc (Nat.le_refl _) _⟩
    have h := World.ownsRow_made (base := w.heap.size) (e := 38) (size := 1) w #[] 0 (Nat.le_refl _) (by simp [maxLen]) rfl
    exact ⟨h, fun _ h => by simp [sumsOf] at h⟩
  case round =>
    obtain ⟨i, va, vc, vs, hi, hva, rfl, rfl, hrow, hB⟩ := hrel
    obtain ⟨wo, rfl⟩ : ∃ wo : World, wo = wr := ⟨_, rfl⟩
    have HROW := Lib.hid hrow
    have HB := Lib.hid hB
    have HVA := Lib.hid hva
    have hszo : w.heap.size ≤ wo.heap.size := hB.size
    clear hrow hva hB
    by_cases hlt : i < K
    · obtain ⟨g0, c0, e1, e2⟩ := HRW.out i hlt
      have E1 := Lib.hid e1
      have E2 := Lib.hid e2
      have i0' : (0 : Int) ≤ (i : Int) := by omega
      clear e1 e2
      go_wp2_with fail
      go_loopw [7, 8] (fun sv cv wx => ∃ (c q : Nat) (ua : Option Addr) (uc : Nat) (us : List Value), c ≤ L ∧ ua ≠ none ∧ cv = .int .i64 c ∧ sv = .slice ua q uc ∧ q = (rowTx ts (of i) c).length ∧ Row trm 73 wo.heap.size (rowTx ts (of i) c) (.slice ua q uc) us wx ∧ Below wo.heap.size wo wx) (fun _ cv _ => L - (intOf cv).toNat)
      case atStart =>
        refine ⟨0, 0, some ⟨wo.heap.size, 0, none⟩, 0, [], Nat.zero_le _, by simp, rfl, rfl, rfl, ?_, (Below.refl _ _).alloc (Nat.le_refl _) _⟩
        have h := World.ownsRow_made (base := wo.heap.size) (e := 73) (size := 2) wo #[] 0 (Nat.le_refl _) (by simp [maxLen]) rfl
        exact ⟨h, fun _ h => by simp [rowTx] at h⟩
      case round =>
        obtain ⟨c, q, ua, uc, us, hc, hua, rfl, rfl, hq, hrow2, hBx⟩ := hrel
        obtain ⟨wx, rfl⟩ : ∃ wx : World, wx = wr := ⟨_, rfl⟩
        have HROW2 := Lib.hid hrow2
        have HBX := Lib.hid hBx
        have HUA := Lib.hid hua
        have HQL := Lib.hid hq
        have hq18 : q ≤ 18 := by have := rowTx_le ts (of i) c; omega
        have hszx : wo.heap.size ≤ wx.heap.size := hBx.size
        clear hrow2 hua hBx hq
        by_cases hlc : c < L
        · have hlt2 : c < ts.length := by rw [← HLL.out]; exact hlc
          obtain ⟨gt', lb, sa, sn, sc, egt, _, d3, d4, hwt, hrt⟩ := trS.get (HRT.out.below (by decide) HB.out) c hlt2
          cases egt
          have d1 := keep1 HB.out E1.out
          have d2 := keep1 HB.out (E2.out c hlc)
          have hm := HTS.out (ts[c]) (List.getElem_mem hlt2)
          obtain ⟨t, ht⟩ : ∃ t, t = ts[c] := ⟨_, rfl⟩
          rw [← ht] at hwt hrt hm
          obtain ⟨z, hz⟩ : ∃ z, z = of i c := ⟨_, rfl⟩
          rw [← hz] at d2
          have HTX := Lib.hid (fun (W : World) (hb : Below wo.heap.size wo W) => l1Text_any _ t _ _ W _ (Nat.le_refl _) hwt (by have := text_length t; omega) (hrt.below hwt hb))
          obtain ⟨tx, htx⟩ : ∃ tx, tx = t.text.toArray := ⟨_, rfl⟩
          have HTE := Lib.hid htx
          have HT := Lib.hid ht
          have HZ := Lib.hid hz
          have D1 := Lib.hid d1
          have D2 := Lib.hid d2
          have D3 := Lib.hid d3
          have D4 := Lib.hid d4
          have x1 := keep1 HBX.out d1
          have x2 := keep1 HBX.out d2
          clear d1 d2 d3 d4
          have c0' : (0 : Int) ≤ (c : Int) := by omega
          clear ht hz htx hrt hm
          by_cases hz0 : z = 0
          · have HNX : Hid (rowTx ts (of i) (c + 1) = rowTx ts (of i) c) := Lib.hid (by rw [rowTx, dif_pos hlt2, ← HZ.out, if_pos hz0, List.append_nil])
            rw [hz0] at x2
            clear D1 D2 D3 D4
            go_wp2_with fail
            exact ⟨⟨c + 1, q, ua, uc, us, by omega, HUA.out, by go_num, rfl, by rw [HNX.out]; exact HQL.out, by rw [HNX.out]; exact HROW2.out, HBX.out⟩, by simp [intOf]; omega⟩
          · have HNX : Hid (rowTx ts (of i) (c + 1) = rowTx ts (of i) c ++ [(z, ⟨tx⟩)]) := Lib.hid (by rw [rowTx, dif_pos hlt2, ← HZ.out, if_neg hz0, HTE.out, HT.out])
            go_wp2_with fail
            refine wp_region_held_drew (S := (fun w' => w'.cell? ⟨gr, i, none⟩ = some (.slice (some ⟨g0, 0, none⟩) L c0) ∧ w'.cell? ⟨g0, c, none⟩ = some (.int .i64 z) ∧ w'.cell? ⟨gt, c * 2, none⟩ = some (.string lb) ∧ w'.cell? ⟨gt, c * 2 + 1, none⟩ = some (.slice sa sn sc))) (by kernel_rfl) (by exact ⟨keep1 HBX.out.drew D1.out, keep1 HBX.out.drew D2.out, keep1 HBX.out.drew D3.out, keep1 HBX.out.drew D4.out⟩) (fun hHeld => ?_)
            refine wpAnyH_take (i := 0) (oi := { dst := some 31, op := Op.move (Operand.tmp 7), type := 38, pos := "l6_duals.go:114", after := #[], guard := none }) (v := ?_) rfl (by kernel_rfl) (by kernel_rfl) (by kernel_rfl) (fun _ _ _ h => h) (Or.inl ⟨by rfl, ?_⟩) (by assumption) ?_
            rotate_left
            · (intro w hSw; (try dsimp only at hSw); go_simp <;> with_reducible rfl)
            (try simp only [Act.put, List.setIfInBounds_toArray, List.set_cons_zero, List.set_cons_succ])
            refine wpAnyH_take (i := 1) (oi := { dst := some 32, op := Op.move (Operand.tmp 1), type := 45, pos := "l6_duals.go:114", after := #[], guard := none }) (v := ?_) rfl (by kernel_rfl) (by kernel_rfl) (by kernel_rfl) (fun _ _ _ h => h) (Or.inl ⟨by rfl, ?_⟩) (by assumption) ?_
            rotate_left
            · (intro w hSw; (try dsimp only at hSw); go_simp <;> with_reducible rfl)
            (try simp only [Act.put, List.setIfInBounds_toArray, List.set_cons_zero, List.set_cons_succ])
            refine wpAnyH_take (i := 2) (oi := { dst := some 33, op := Op.move (Operand.tmp 6), type := 3, pos := "l6_duals.go:114", after := #[], guard := none }) (v := ?_) rfl (by kernel_rfl) (by kernel_rfl) (by kernel_rfl) (fun _ _ _ h => h) (Or.inl ⟨by rfl, ?_⟩) (by assumption) ?_
            rotate_left
            · (intro w hSw; (try dsimp only at hSw); go_simp <;> with_reducible rfl)
            (try simp only [Act.put, List.setIfInBounds_toArray, List.set_cons_zero, List.set_cons_succ])
            refine wpAnyH_take (i := 3) (oi := { dst := some 34, op := Op.indexAddr 45 (Operand.tmp 32) (Operand.tmp 33), type := 0, pos := "l6_duals.go:114", after := #[{ on := 1, ground := Ground.data }, { on := 2, ground := Ground.data }], guard := none }) (v := ?_) rfl (by kernel_rfl) (by kernel_rfl) (by kernel_rfl) (fun _ _ _ h => h) (Or.inl ⟨by rfl, ?_⟩) (by assumption) ?_
            rotate_left
            · (intro w hSw; (try dsimp only at hSw); go_simp <;> with_reducible rfl)
            (try simp only [Act.put, List.setIfInBounds_toArray, List.set_cons_zero, List.set_cons_succ])
            refine wpAnyH_take (i := 4) (oi := { dst := some 35, op := Op.load 48 (Operand.tmp 34), type := 48, pos := "l6_duals.go:114", after := #[{ on := 3, ground := Ground.data }], guard := none }) (v := ?_) rfl (by kernel_rfl) (by kernel_rfl) (by kernel_rfl) (fun _ _ _ h => h) (Or.inl ⟨by rfl, ?_⟩) (by assumption) ?_
            rotate_left
            · (intro w hSw; (try dsimp only at hSw); go_simp <;> with_reducible rfl)
            (try simp only [Act.put, List.setIfInBounds_toArray, List.set_cons_zero, List.set_cons_succ])
            refine wpAnyH_take (i := 5) (oi := { dst := some 36, op := Op.move (Operand.tmp 8), type := 3, pos := "l6_duals.go:114", after := #[], guard := none }) (v := ?_) rfl (by kernel_rfl) (by kernel_rfl) (by kernel_rfl) (fun _ _ _ h => h) (Or.inl ⟨by rfl, ?_⟩) (by assumption) ?_
            rotate_left
            · (intro w hSw; (try dsimp only at hSw); go_simp <;> with_reducible rfl)
            (try simp only [Act.put, List.setIfInBounds_toArray, List.set_cons_zero, List.set_cons_succ])
            refine wpAnyH_take (i := 6) (oi := { dst := some 37, op := Op.indexAddr 48 (Operand.tmp 35) (Operand.tmp 36), type := 0, pos := "l6_duals.go:114", after := #[{ on := 4, ground := Ground.data }, { on := 5, ground := Ground.data }], guard := none }) (v := ?_) rfl (by kernel_rfl) (by kernel_rfl) (by kernel_rfl) (fun _ _ _ h => h) (Or.inl ⟨by rfl, ?_⟩) (by assumption) ?_
            rotate_left
            · (intro w hSw; (try dsimp only at hSw); go_simp <;> with_reducible rfl)
            (try simp only [Act.put, List.setIfInBounds_toArray, List.set_cons_zero, List.set_cons_succ])
            refine wpAnyH_take (i := 7) (oi := { dst := some 38, op := Op.load 3 (Operand.tmp 37), type := 3, pos := "l6_duals.go:114", after := #[{ on := 6, ground := Ground.data }], guard := none }) (v := ?_) rfl (by kernel_rfl) (by kernel_rfl) (by kernel_rfl) (fun _ _ _ h => h) (Or.inl ⟨by rfl, ?_⟩) (by assumption) ?_
            rotate_left
            · (intro w hSw; (try dsimp only at hSw); go_simp <;> with_reducible rfl)
            (try simp only [Act.put, List.setIfInBounds_toArray, List.set_cons_zero, List.set_cons_succ])
            refine wpAnyH_take (i := 8) (oi := { dst := some 39, op := Op.move (Operand.tmp 0), type := 44, pos := "l6_duals.go:114", after := #[], guard := none }) (v := ?_) rfl (by kernel_rfl) (by kernel_rfl) (by kernel_rfl) (fun _ _ _ h => h) (Or.inl ⟨by rfl, ?_⟩) (by assumption) ?_
            rotate_left
            · (intro w hSw; (try dsimp only at hSw); go_simp <;> with_reducible rfl)
            (try simp only [Act.put, List.setIfInBounds_toArray, List.set_cons_zero, List.set_cons_succ])
            refine wpAnyH_take (i := 9) (oi := { dst := some 40, op := Op.move (Operand.tmp 8), type := 3, pos := "l6_duals.go:114", after := #[], guard := none }) (v := ?_) rfl (by kernel_rfl) (by kernel_rfl) (by kernel_rfl) (fun _ _ _ h => h) (Or.inl ⟨by rfl, ?_⟩) (by assumption) ?_
            rotate_left
            · (intro w hSw; (try dsimp only at hSw); go_simp <;> with_reducible rfl)
            (try simp only [Act.put, List.setIfInBounds_toArray, List.set_cons_zero, List.set_cons_succ])
            refine wpAnyH_take (i := 10) (oi := { dst := some 41, op := Op.indexAddr 44 (Operand.tmp 39) (Operand.tmp 40), type := 0, pos := "l6_duals.go:114", after := #[{ on := 8, ground := Ground.data }, { on := 9, ground := Ground.data }], guard := none }) (v := ?_) rfl (by kernel_rfl) (by kernel_rfl) (by kernel_rfl) (fun _ _ _ h => h) (Or.inl ⟨by rfl, ?_⟩) (by assumption) ?_
            rotate_left
            · (intro w hSw; (try dsimp only at hSw); go_simp <;> with_reducible rfl)
            (try simp only [Act.put, List.setIfInBounds_toArray, List.set_cons_zero, List.set_cons_succ])
            refine wpAnyH_take (i := 11) (oi := { dst := some 42, op := Op.load 66 (Operand.tmp 41), type := 66, pos := "l6_duals.go:114", after := #[{ on := 10, ground := Ground.data }], guard := none }) (v := ?_) rfl (by kernel_rfl) (by kernel_rfl) (by kernel_rfl) (fun _ _ _ h => h) (Or.inl ⟨by rfl, ?_⟩) (by assumption) ?_
            rotate_left
            · (intro w hSw; (try dsimp only at hSw); go_simp <;> with_reducible rfl)
            (try simp only [Act.put, List.setIfInBounds_toArray, List.set_cons_zero, List.set_cons_succ])
            have HBD := Lib.hid HBX.out.drew
            have HWD := Lib.hid (Below.refl wx.heap.size wx).drew
            refine wpAnyH_ready (rs := [12]) (by kernel_rfl) (by simp) ?_
            refine AllReadyH.cons (o := { dst := some 43, op := Op.call { callee := Callee.value (Operand.func 48), args := #[Operand.tmp 42], argTypes := #[66] }, type := 9, pos := "l6_duals.go:114", after := #[{ on := 11, ground := Ground.data }], guard := none }) rfl (fun KK hK => ?_) AllReadyH.nil
            go_simp
            go_wp2_with fail
            refine (HTX.out _ HBD.out).mono ?_
            rintro e w1 ⟨rfl, hB1⟩
            have HB1 := Lib.hid (below_step HBD.out hB1)
            have HW1 := Lib.hid (below_step HWD.out hB1)
            clear hB1
            rw [← HTE.out]
            go_wp2_with fail
            refine hK.out _ _ ?_ (fun hHeld => ?_)
            · exact ⟨keep1 HB1.out D1.out, keep1 HB1.out D2.out, keep1 HB1.out D3.out, keep1 HB1.out D4.out⟩
            clear hK KK
            (try simp only [Act.put, List.setIfInBounds_toArray, List.set_cons_zero, List.set_cons_succ])
            refine wpAnyH_take (i := 13) (oi := { dst := some 44, op := Op.build 73 #[(0, Operand.tmp 38), (1, Operand.tmp 43)], type := 73, pos := "l6_duals.go:114", after := #[{ on := 7, ground := Ground.data }, { on := 12, ground := Ground.data }], guard := none }) (v := ?_) rfl (by kernel_rfl) (by kernel_rfl) (by kernel_rfl) (fun _ _ _ h => h) (Or.inl ⟨by rfl, ?_⟩) (by assumption) ?_
            rotate_left
            · (intro w hSw; (try dsimp only at hSw); go_simp <;> with_reducible rfl)
            (try simp only [Act.put, List.setIfInBounds_toArray, List.set_cons_zero, List.set_cons_succ])
            refine wpAnyH_ready (rs := [14]) (by kernel_rfl) (by simp) ?_
            refine AllReadyH.cons (o := { dst := some 45, op := Op.buildSlice 38 1 #[(0, Operand.tmp 44)], type := 38, pos := "l6_duals.go:114", after := #[{ on := 13, ground := Ground.data }], guard := none }) rfl (fun KK hK => ?_) AllReadyH.nil
            go_simp
            go_wp2_with fail
            have HB2 := Lib.hid (HB1.out.alloc HB1.out.size (.cells #[.int .i64 z, .string ⟨tx⟩] 73 (0, 0)))
            have OW1 := owns_below HROW2.out.own HW1.out
            rw [← HQL.out] at OW1
            have OW2 := Lib.hid (World.ownsRow.alloc OW1 (.cells #[.int .i64 z, .string ⟨tx⟩] 73 (0, 0)))
            clear OW1
            have BX2 : Hid ((w1.alloc (.cells #[.int .i64 z, .string ⟨tx⟩] 73 (0, 0))).heap[w1.heap.size]? = some (.cells #[.int .i64 z, .string ⟨tx⟩] 73 (0, 0))) := Lib.hid (heap_alloc_new w1 _)
            refine hK.out _ _ ?_ (fun hHeld => ?_)
            · exact ⟨keep1 HB2.out D1.out, keep1 HB2.out D2.out, keep1 HB2.out D3.out, keep1 HB2.out D4.out⟩
            clear hK KK
            (try simp only [Act.put, List.setIfInBounds_toArray, List.set_cons_zero, List.set_cons_succ])
            refine wpAnyH_ready (rs := [15]) (by kernel_rfl) (by simp) ?_
            refine AllReadyH.cons (o := { dst := some 46, op := Op.call { callee := Callee.builtin Builtin.append, args := #[Operand.tmp 31, Operand.tmp 45], argTypes := #[38, 38] }, type := 38, pos := "l6_duals.go:114", after := #[{ on := 0, ground := Ground.data }, { on := 14, ground := Ground.data }, { on := 12, ground := Ground.chain }], guard := none }) rfl (fun KK hK => ?_) AllReadyH.nil
            refine step_append_any _ (by rfl) _ _ 38 (by rfl) wo.heap.size 73 i0 (.agg #[.int .i64 0, .string ⟨#[]⟩]) 2 24 Tryz.underlying38 hi0 hzz hzs hzb rfl (by decide) (.slice ua q uc) q us (by rfl) OW2.out (by simp [HUA.out]) ⟨w1.heap.size, 0, none⟩ 1 1 [.int .i64 z, .string ⟨tx⟩] (by rfl) (by rfl) (World.news_of_block BX2.out) (by simp [Value.oneCell']) (q + 1) (us ++ [.int .i64 z, .string ⟨tx⟩]) (by rfl) (by rfl) (by unfold maxLen; omega) (by omega) HB2.out.size ?_
            intro g3 c3 w3 hown3 hgr3
            have HB3 := Lib.hid (HB2.out.grown hgr3 HB2.out.size (fun b e => (OW2.out.lt b e).1))
            have HNR : Hid (Row trm 73 wo.heap.size (rowTx ts (of i) (c + 1)) (.slice (some ⟨g3, 0, none⟩) (q + 1) c3) (us ++ [.int .i64 z, .string ⟨tx⟩]) w3) := Lib.hid (by
              have h := trm_snoc (a := (z, ⟨tx⟩)) (g := g3) (cap := c3) (w2 := w3) HROW2.out (by rw [← HQL.out]; exact hown3)
              rw [← HQL.out] at h
              rw [HNX.out]
              exact h)
            clear hown3 hgr3
            refine hK.out _ _ ?_ (fun hHeld => ?_)
            · exact ⟨keep1 HB3.out D1.out, keep1 HB3.out D2.out, keep1 HB3.out D3.out, keep1 HB3.out D4.out⟩
            clear hK KK
            (try simp only [Act.put, List.setIfInBounds_toArray, List.set_cons_zero, List.set_cons_succ])
            refine wpAnyH_take (i := 16) (oi := { dst := some 7, op := Op.assign (Operand.tmp 46), type := 38, pos := "l6_duals.go:114", after := #[{ on := 15, ground := Ground.data }, { on := 15, ground := Ground.chain }, { on := 0, ground := Ground.phase }, { on := 1, ground := Ground.phase }, { on := 2, ground := Ground.phase }, { on := 3, ground := Ground.phase }, { on := 4, ground := Ground.phase }, { on := 5, ground := Ground.phase }, { on := 6, ground := Ground.phase }, { on := 7, ground := Ground.phase }, { on := 8, ground := Ground.phase }, { on := 9, ground := Ground.phase }, { on := 10, ground := Ground.phase }, { on := 11, ground := Ground.phase }, { on := 12, ground := Ground.phase }, { on := 13, ground := Ground.phase }, { on := 14, ground := Ground.phase }, { on := 15, ground := Ground.phase }], guard := none }) (v := ?_) rfl (by kernel_rfl) (by kernel_rfl) (by kernel_rfl) (fun _ _ _ h => h) (Or.inl ⟨by rfl, ?_⟩) (by assumption) ?_
            rotate_left
            · (intro w hSw; (try dsimp only at hSw); go_simp <;> with_reducible rfl)
            (try simp only [Act.put, List.setIfInBounds_toArray, List.set_cons_zero, List.set_cons_succ])
            refine wpAnyH_done (by kernel_rfl) ?_ _
            all_goals
              go_wp2_with fail
              exact ⟨⟨c + 1, q + 1, some ⟨g3, 0, none⟩, c3, _, by omega, by simp, by go_num, rfl, by rw [HNX.out, List.length_append, ← HQL.out]; rfl, HNR.out, HB3.out⟩, by simp [intOf]; omega⟩
        · have hcL : c = L := by omega
          obtain ⟨gv, rfl, _⟩ := owns_addr HROW2.out.own HUA.out
          have OWN := owns_below HROW.out.own HBX.out
          rw [sumsOf_length] at OWN
          have HOWN := Lib.hid OWN
          have HOA := Lib.hid (World.ownsRow.alloc OWN (.cells #[.slice (some ⟨gv, 0, none⟩) q uc] 38 (0, 0)))
          clear OWN
          go_wp2_with (at_builtin; refine wpList_append_own_at _ rfl _ _ 26 rfl w.heap.size 38 j0 (.slice none 0 0) 1 24 Tryz.underlying26 hj0 hyz hys hyb rfl (by decide) (.slice va i vc) i vs rfl HOA.out ⟨wx.heap.size, 0, none⟩ 1 1 [.slice (some ⟨gv, 0, none⟩) q uc] rfl rfl (cell_one_new _ _ _) (by simp [Value.oneCell']) (by unfold maxLen; omega) (by omega) (by simp; omega) ?_; intro v3 w6 hown3 hg3 hnil3 hat3)
          obtain ⟨g3, q3, rfl, _, _, _⟩ := owns_some hown3 (fun e => by have := hnil3.1 e; simp [HVA.out] at this)
          have HNR : Hid (Row tmsE 38 w.heap.size (sumsOf ts of (i + 1)) (.slice (some ⟨g3, 0, none⟩) (i + 1) q3) (vs ++ [.slice (some ⟨gv, 0, none⟩) q uc]) w6) := Lib.hid (by
            have h := HROW.out.next (a := rowTx ts (of i) ts.length) (cs := [.slice (some ⟨gv, 0, none⟩) q uc]) (g := g3) (cap := q3) (w1 := wx) (w1' := wx.alloc (.cells #[.slice (some ⟨gv, 0, none⟩) q uc] 38 (0, 0))) HBX.out ⟨gv, uc, by rw [← HLL.out, ← hcL, ← HQL.out], fun _ e => by
                have h1 := (HROW.out.own.lt gv e).2
                have h2 := (HROW2.out.own.lt gv rfl).1
                omega, by
                have h := trm.lies HROW2.out.rd
                rw [hcL, HLL.out] at h
                exact h⟩ ((Below.refl _ _).alloc (Nat.le_refl _) _) (by rw [sumsOf_length]; exact hown3) hg3 (by
              rcases hat3 with h | h
              · left; rw [← h]; rfl
              · right; simp [Value.ownBlock] at h; omega)
            rw [sumsOf_length] at h
            rw [sumsOf_next]
            exact h)
          have BB := Lib.hid (((below_step HB.out HBX.out).alloc (by omega) (.cells #[.slice (some ⟨gv, 0, none⟩) q uc] 38 (0, 0))).grown hg3 (by simp; omega) (fun b e => by have := (HOWN.out.lt b e).1; omega))
          clear hown3 hg3 hnil3 hat3
          exact ⟨⟨i + 1, some ⟨g3, 0, none⟩, q3, _, by omega, by simp, by go_num, rfl, HNR.out, BB.out⟩, by simp [intOf]; omega⟩
    · have hiK : i = K := by omega
      obtain ⟨gv, rfl, _⟩ := owns_addr HROW.out.own HVA.out
      have HG := Lib.hid (HROW.out.own.lt gv rfl)
      have HRD := Lib.hid HROW.out.rd
      subst hiK
      go_wp2_with fail
      go_ret
      exact ⟨HB.out, gv, vc, by rw [sumsOf_length]; rfl, HG.out.1, HRD.out⟩
end Go.Proofs.YtoeebipahifpcaaGreat
end
