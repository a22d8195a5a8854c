/- The program adds two sums: addSums, SumAdd. -/
import Derived.Test.YtipodlckehodnaaPlusI
import Derived.Deep.RegionHeld3
namespace Go.Proofs.Ytipodlckehodnaa
open Go.RowKit

/-- What 'addSums' answers. -/
def AddPost (ps qs : List Tm) (w : World) (e : Ending) (w' : World) : Prop :=
  Below w.heap.size w w' ∧ ((alike ps qs = false ∧ e = .returned (.tuple #[.agg #[.nilFunc, .slice none 0 0], .bool false])) ∨
    (alike ps qs = true ∧ ∃ g6 c6, e = .returned (.tuple #[.agg #[(.func (.func 57) #[] #[]), .slice (some ⟨g6, 0, none⟩) (canon (ps ++ qs)).length c6], .bool true]) ∧ Rd tmI w' (fun _ => True) (some ⟨g6, 0, none⟩) (canon (ps ++ qs))))

set_option maxRecDepth 100000 in
set_option maxHeartbeats 2000000 in
theorem addSums_any (ps qs : List Tm) (n n' : Nat) (hn : n = ps.length) (hn' : n' = qs.length) (g c g' c' : Nat) (w : World) (hn2 : n ≤ 10000) (hn2' : n' ≤ 10000) (hps : ∀ p ∈ ps ++ qs, p.2.wf ∧ p.2.leaves ≤ 1000 ∧ p.2.nodes ≤ 1000 ∧ -1000000 ≤ p.1 ∧ p.1 ≤ 1000000) (hr : Rd tmI w (fun _ => True) (some ⟨g, 0, none⟩) ps) (hr' : Rd tmI w (fun _ => True) (some ⟨g', 0, none⟩) qs) :
    Calls Try.prog 59 #[.agg #[(.func (.func 57) #[] #[]), .slice (some ⟨g, 0, none⟩) n c], .agg #[(.func (.func 57) #[] #[]), .slice (some ⟨g', 0, none⟩) n' c']] w (AddPost ps qs w) := by
  obtain ⟨w0, hw0⟩ : ∃ w0, w0 = ((w.alloc (.cells #[(.func (.func 57) #[] #[]), .slice (some ⟨g, 0, none⟩) n c] 65 (0, 0))).alloc (.cells #[(.func (.func 57) #[] #[]), .slice (some ⟨g', 0, none⟩) n' c'] 65 (0, 0))).alloc (.cells #[.nilFunc, .slice none 0 0] 65 (0, 0)) := ⟨_, rfl⟩
  have hB0 : Below w.heap.size w w0 := by rw [hw0]; exact (((Below.refl _ _).alloc (Nat.le_refl _) _).alloc (by simp) _).alloc (by simp; omega) _
  have hA : w0.heap[w.heap.size]? = some (.cells #[(.func (.func 57) #[] #[]), .slice (some ⟨g, 0, none⟩) n c] 65 (0, 0)) := by
    rw [hw0, Below.heap_alloc _ _ _ (by simp; omega), Below.heap_alloc _ _ _ (by simp)]; exact heap_alloc_new w _
  have hBx : w0.heap[w.heap.size + 1]? = some (.cells #[(.func (.func 57) #[] #[]), .slice (some ⟨g', 0, none⟩) n' c'] 65 (0, 0)) := by
    rw [hw0, Below.heap_alloc _ _ _ (by simp)]
    have := heap_alloc_new (w.alloc (.cells #[(.func (.func 57) #[] #[]), .slice (some ⟨g, 0, none⟩) n c] 65 (0, 0))) (.cells #[(.func (.func 57) #[] #[]), .slice (some ⟨g', 0, none⟩) n' c'] 65 (0, 0))
    simpa using this
  have hR : w0.heap[w.heap.size + 1 + 1]? = some (.cells #[.nilFunc, .slice none 0 0] 65 (0, 0)) := by
    rw [hw0]
    have := heap_alloc_new ((w.alloc (.cells #[(.func (.func 57) #[] #[]), .slice (some ⟨g, 0, none⟩) n c] 65 (0, 0))).alloc (.cells #[(.func (.func 57) #[] #[]), .slice (some ⟨g', 0, none⟩) n' c'] 65 (0, 0))) (.cells #[.nilFunc, .slice none 0 0] 65 (0, 0))
    simpa using this
  have hsz : w0.heap.size = w.heap.size + 1 + 1 + 1 := by rw [hw0]; simp
  obtain ⟨a0, a1, _, _⟩ := two_cells hA
  obtain ⟨b0, b1, _, _⟩ := two_cells hBx
  have HP := Lib.hid (fun (W : World) (hb : Below w0.heap.size w0 W) => plus_any (fun b => b < w.heap.size) ps qs n n' hn hn' g c g' c' W hn2 hn2' hps (((hr.weak (P' := fun b => b < w.heap.size) (by decide) (fun _ _ h' => h')).below (by decide) hB0).below (by decide) hb) (((hr'.weak (P' := fun b => b < w.heap.size) (by decide) (fun _ _ h' => h')).below (by decide) hB0).below (by decide) hb))
  have HI := Lib.hid (fun W => isZero_any n g c W)
  have HI' := Lib.hid (fun W => isZero_any n' g' c' W)
  have hl0 : w.heap.size < w0.heap.size := by omega
  have hl1 : w.heap.size + 1 < w0.heap.size := by omega
  have hl2 : w.heap.size + 1 + 1 < w0.heap.size := by omega
  have HW0 := Lib.hid hw0
  have HSZ := Lib.hid hsz
  have HR := Lib.hid hR
  have HRR := Lib.hid (hr.below (by decide) hB0)
  have HRR' := Lib.hid (hr'.below (by decide) hB0)
  have HB0 := Lib.hid hB0
  have HNN := Lib.hid hn
  have HNN' := Lib.hid hn'
  have HPS := Lib.hid hps
  clear hr hr' hps hn hn' hw0 hB0 hA hBx hR hsz
  by_cases h1 : n = 0
  · rw [decide_eq_true h1] at HI
    have HYA : Hid (alike ps qs = true) := Lib.hid (by
      have e := HNN.out
      rw [h1] at e
      rw [List.length_eq_zero_iff.1 e.symm]; rfl)
    clear h1
    go_enter Try.func59, Try.ntmps59
    go_wp2_with fail
    rw [← HW0.out]
    refine wp_region_held_drew (S := (fun w' => w'.cell? ⟨w.heap.size, 0, none⟩ = some (.func (.func 57) #[] #[]) ∧ w'.cell? ⟨w.heap.size, 1, none⟩ = some (.slice (some ⟨g, 0, none⟩) n c) ∧ w'.cell? ⟨w.heap.size + 1, 0, none⟩ = some (.func (.func 57) #[] #[]) ∧ w'.cell? ⟨w.heap.size + 1, 1, none⟩ = some (.slice (some ⟨g', 0, none⟩) n' c'))) (by kernel_rfl) (by exact ⟨a0, a1, b0, b1⟩) (fun hHeld => ?_)
    refine wpAnyH_take (i := 0) (oi := { dst := some 6, op := Op.load 65 (Operand.tmp 2), type := 65, pos := "l3_sums.go:219", after := #[], guard := none }) (v := ?_) rfl (by kernel_rfl) (by kernel_rfl) (by kernel_rfl) (fun _ _ _ h => h) (Or.inl ⟨by rfl, ?_⟩) (by assumption) ?_
    rotate_left
    · (intro w hSw; (try dsimp only at hSw); go_simp <;> with_reducible rfl)
    (try simp only [Act.put, List.setIfInBounds_toArray, List.set_cons_zero, List.set_cons_succ])
    refine wpAnyH_ready (rs := [1]) (by kernel_rfl) (by simp) ?_
    refine AllReadyH.cons (o := { dst := some 7, op := Op.call { callee := Callee.value (Operand.func 95), args := #[Operand.tmp 6], argTypes := #[65] }, type := 4, pos := "l3_sums.go:219", after := #[{ on := 0, ground := Ground.data }], guard := none }) rfl (fun K hK => ?_) AllReadyH.nil
    go_simp
    go_wp2_with (go_at_call 95; refine (HI.out _).mono ?_; rintro e w3 ⟨rfl, hB⟩; have hb := (Below.refl w0.heap.size w0).drew.trans hB; have y0 := keep1 hb a0; have y1 := keep1 hb a1; have y2 := keep1 hb b0; have y3 := keep1 hb b1; have HC3 := Lib.hid hb; clear hB hb)
    refine hK.out _ _ ?_ (fun hHeld => ?_)
    · exact ⟨y0, y1, y2, y3⟩
    clear hK K
    (try simp only [Act.put, List.setIfInBounds_toArray, List.set_cons_zero, List.set_cons_succ])
    refine wpAnyH_take (i := 2) (oi := { dst := some 8, op := Op.unOp UnOp.not 4 (Operand.tmp 7), type := 4, pos := "l3_sums.go:219", after := #[{ on := 1, ground := Ground.data }], guard := none }) (v := ?_) rfl (by kernel_rfl) (by kernel_rfl) (by kernel_rfl) (fun _ _ _ h => h) (Or.inl ⟨by rfl, ?_⟩) (by assumption) ?_
    rotate_left
    · (intro w hSw; (try dsimp only at hSw); go_simp <;> with_reducible rfl)
    (try simp only [Act.put, List.setIfInBounds_toArray, List.set_cons_zero, List.set_cons_succ])
    refine wpAnyH_take (i := 3) (oi := { dst := some 9, op := Op.move (Operand.tmp 8), type := 4, pos := "l3_sums.go:219", after := #[{ on := 2, ground := Ground.data }, { on := 1, ground := Ground.chain }], guard := none }) (v := ?_) rfl (by kernel_rfl) (by kernel_rfl) (by kernel_rfl) (fun _ _ _ h => h) (Or.inl ⟨by rfl, ?_⟩) (by assumption) ?_
    rotate_left
    · (intro w hSw; (try dsimp only at hSw); go_simp <;> with_reducible rfl)
    (try simp only [Act.put, List.setIfInBounds_toArray, List.set_cons_zero, List.set_cons_succ])
    refine wpAnyH_take (i := 4) (oi := { dst := some 10, op := Op.load 65 (Operand.tmp 3), type := 65, pos := "l3_sums.go:219", after := #[{ on := 3, ground := Ground.guard }], guard := some (3, true) }) (v := undef) rfl (by kernel_rfl) (by kernel_rfl) (by kernel_rfl) (fun _ _ _ h => h) (Or.inr ⟨by rfl, rfl⟩) (by assumption) ?_
    (try simp only [Act.put, List.setIfInBounds_toArray, List.set_cons_zero, List.set_cons_succ])
    refine wpAnyH_take (i := 5) (oi := { dst := some 11, op := Op.call { callee := Callee.value (Operand.func 95), args := #[Operand.tmp 10], argTypes := #[65] }, type := 4, pos := "l3_sums.go:219", after := #[{ on := 4, ground := Ground.data }, { on := 3, ground := Ground.chain }, { on := 3, ground := Ground.guard }], guard := some (3, true) }) (v := undef) rfl (by kernel_rfl) (by kernel_rfl) (by kernel_rfl) (fun _ _ _ h => h) (Or.inr ⟨by rfl, rfl⟩) (by assumption) ?_
    (try simp only [Act.put, List.setIfInBounds_toArray, List.set_cons_zero, List.set_cons_succ])
    refine wpAnyH_take (i := 6) (oi := { dst := some 12, op := Op.unOp UnOp.not 4 (Operand.tmp 11), type := 4, pos := "l3_sums.go:219", after := #[{ on := 5, ground := Ground.data }, { on := 3, ground := Ground.guard }], guard := some (3, true) }) (v := undef) rfl (by kernel_rfl) (by kernel_rfl) (by kernel_rfl) (fun _ _ _ h => h) (Or.inr ⟨by rfl, rfl⟩) (by assumption) ?_
    (try simp only [Act.put, List.setIfInBounds_toArray, List.set_cons_zero, List.set_cons_succ])
    refine wpAnyH_take (i := 7) (oi := { dst := some 13, op := Op.pick (Operand.tmp 9) (Operand.tmp 12) (Operand.const (Value.bool false)), type := 4, pos := "l3_sums.go:219", after := #[{ on := 3, ground := Ground.data }, { on := 6, ground := Ground.data }], guard := none }) (v := ?_) rfl (by kernel_rfl) (by kernel_rfl) (by kernel_rfl) (fun _ _ _ h => h) (Or.inl ⟨by rfl, ?_⟩) (by assumption) ?_
    rotate_left
    · (intro w hSw; (try dsimp only at hSw); go_simp <;> with_reducible rfl)
    (try simp only [Act.put, List.setIfInBounds_toArray, List.set_cons_zero, List.set_cons_succ])
    refine wpAnyH_take (i := 8) (oi := { dst := some 14, op := Op.move (Operand.tmp 13), type := 4, pos := "l3_sums.go:219", after := #[{ on := 7, ground := Ground.data }, { on := 5, ground := Ground.chain }], guard := none }) (v := ?_) rfl (by kernel_rfl) (by kernel_rfl) (by kernel_rfl) (fun _ _ _ h => h) (Or.inl ⟨by rfl, ?_⟩) (by assumption) ?_
    rotate_left
    · (intro w hSw; (try dsimp only at hSw); go_simp <;> with_reducible rfl)
    (try simp only [Act.put, List.setIfInBounds_toArray, List.set_cons_zero, List.set_cons_succ])
    refine wpAnyH_take (i := 9) (oi := { dst := some 15, op := Op.load 65 (Operand.tmp 2), type := 65, pos := "l3_sums.go:219", after := #[{ on := 8, ground := Ground.guard }], guard := some (8, true) }) (v := undef) rfl (by kernel_rfl) (by kernel_rfl) (by kernel_rfl) (fun _ _ _ h => h) (Or.inr ⟨by rfl, rfl⟩) (by assumption) ?_
    (try simp only [Act.put, List.setIfInBounds_toArray, List.set_cons_zero, List.set_cons_succ])
    refine wpAnyH_take (i := 10) (oi := { dst := some 16, op := Op.call { callee := Callee.value (Operand.func 96), args := #[Operand.tmp 15], argTypes := #[65] }, type := 3, pos := "l3_sums.go:219", after := #[{ on := 9, ground := Ground.data }, { on := 8, ground := Ground.chain }, { on := 8, ground := Ground.guard }], guard := some (8, true) }) (v := undef) rfl (by kernel_rfl) (by kernel_rfl) (by kernel_rfl) (fun _ _ _ h => h) (Or.inr ⟨by rfl, rfl⟩) (by assumption) ?_
    (try simp only [Act.put, List.setIfInBounds_toArray, List.set_cons_zero, List.set_cons_succ])
    refine wpAnyH_take (i := 11) (oi := { dst := some 17, op := Op.load 65 (Operand.tmp 3), type := 65, pos := "l3_sums.go:219", after := #[{ on := 8, ground := Ground.guard }], guard := some (8, true) }) (v := undef) rfl (by kernel_rfl) (by kernel_rfl) (by kernel_rfl) (fun _ _ _ h => h) (Or.inr ⟨by rfl, rfl⟩) (by assumption) ?_
    (try simp only [Act.put, List.setIfInBounds_toArray, List.set_cons_zero, List.set_cons_succ])
    refine wpAnyH_take (i := 12) (oi := { dst := some 18, op := Op.call { callee := Callee.value (Operand.func 96), args := #[Operand.tmp 17], argTypes := #[65] }, type := 3, pos := "l3_sums.go:219", after := #[{ on := 11, ground := Ground.data }, { on := 10, ground := Ground.chain }, { on := 8, ground := Ground.guard }], guard := some (8, true) }) (v := undef) rfl (by kernel_rfl) (by kernel_rfl) (by kernel_rfl) (fun _ _ _ h => h) (Or.inr ⟨by rfl, rfl⟩) (by assumption) ?_
    (try simp only [Act.put, List.setIfInBounds_toArray, List.set_cons_zero, List.set_cons_succ])
    refine wpAnyH_take (i := 13) (oi := { dst := some 19, op := Op.binOp BinOp.neq 3 (Operand.tmp 16) (Operand.tmp 18) 3, type := 4, pos := "l3_sums.go:219", after := #[{ on := 10, ground := Ground.data }, { on := 12, ground := Ground.data }, { on := 8, ground := Ground.guard }], guard := some (8, true) }) (v := undef) rfl (by kernel_rfl) (by kernel_rfl) (by kernel_rfl) (fun _ _ _ h => h) (Or.inr ⟨by rfl, rfl⟩) (by assumption) ?_
    (try simp only [Act.put, List.setIfInBounds_toArray, List.set_cons_zero, List.set_cons_succ])
    refine wpAnyH_take (i := 14) (oi := { dst := some 20, op := Op.pick (Operand.tmp 14) (Operand.tmp 19) (Operand.const (Value.bool false)), type := 4, pos := "l3_sums.go:219", after := #[{ on := 8, ground := Ground.data }, { on := 13, ground := Ground.data }], guard := none }) (v := ?_) rfl (by kernel_rfl) (by kernel_rfl) (by kernel_rfl) (fun _ _ _ h => h) (Or.inl ⟨by rfl, ?_⟩) (by assumption) ?_
    rotate_left
    · (intro w hSw; (try dsimp only at hSw); go_simp <;> with_reducible rfl)
    (try simp only [Act.put, List.setIfInBounds_toArray, List.set_cons_zero, List.set_cons_succ])
    refine wpAnyH_done (by kernel_rfl) ?_ _
    all_goals
      go_wp2_with fail
      refine (HP.out _ HC3.out).mono ?_
      rintro e u6 ⟨hB6, g6, c6, rfl, hr6⟩
      have hb6 := HC3.out.trans (hB6.mono HC3.out.size)
      obtain ⟨r0, r1, fr0, fr1⟩ := two_cells ((hb6.block _ hl2).trans HR.out)
      have HB6 := Lib.hid hb6
      have HR6 := Lib.hid hr6
      have hs6 := hb6.size
      have hs5 := HC3.out.size
      clear hB6 hb6 hr6
      go_wp2_with fail
      refine bodyPost_ret (v := .tuple #[.agg #[(.func (.func 57) #[] #[]), .slice (some ⟨g6, 0, none⟩) (canon (ps ++ qs)).length c6], .bool true]) (by simp [results, Try.results59, go_sem, r0, r1]) rfl ?_
      refine ⟨((below_step HB0.out HB6.out).setCell (p := ⟨w.heap.size + 1 + 1, 0, none⟩) (by simp; omega) _).setCell (p := ⟨w.heap.size + 1 + 1, 1, none⟩) (by simp; omega) _, .inr ⟨HYA.out, g6, c6, rfl, ?_⟩⟩
      have h2 := HSZ.out
      refine HR6.out.keep (by decide) (fun q u hq hu => ?_) (fun b h _ => trivial)
      have hne : q.block ≠ w.heap.size + 1 + 1 := by
        rcases hq with h | h
        · omega
        · omega
      exact cell_put_two hu hne _ _
  · rw [decide_eq_false h1] at HI
    by_cases h2 : n' = 0
    · rw [decide_eq_true h2] at HI'
      have HYA : Hid (alike ps qs = true) := Lib.hid (by
        have e := HNN'.out
        rw [h2] at e
        rw [List.length_eq_zero_iff.1 e.symm]; cases ps <;> rfl)
      clear h1 h2
      go_enter Try.func59, Try.ntmps59
      go_wp2_with fail
      rw [← HW0.out]
      refine wp_region_held_drew (S := (fun w' => w'.cell? ⟨w.heap.size, 0, none⟩ = some (.func (.func 57) #[] #[]) ∧ w'.cell? ⟨w.heap.size, 1, none⟩ = some (.slice (some ⟨g, 0, none⟩) n c) ∧ w'.cell? ⟨w.heap.size + 1, 0, none⟩ = some (.func (.func 57) #[] #[]) ∧ w'.cell? ⟨w.heap.size + 1, 1, none⟩ = some (.slice (some ⟨g', 0, none⟩) n' c'))) (by kernel_rfl) (by exact ⟨a0, a1, b0, b1⟩) (fun hHeld => ?_)
      refine wpAnyH_take (i := 0) (oi := { dst := some 6, op := Op.load 65 (Operand.tmp 2), type := 65, pos := "l3_sums.go:219", after := #[], guard := none }) (v := ?_) rfl (by kernel_rfl) (by kernel_rfl) (by kernel_rfl) (fun _ _ _ h => h) (Or.inl ⟨by rfl, ?_⟩) (by assumption) ?_
      rotate_left
      · (intro w hSw; (try dsimp only at hSw); go_simp <;> with_reducible rfl)
      (try simp only [Act.put, List.setIfInBounds_toArray, List.set_cons_zero, List.set_cons_succ])
      refine wpAnyH_ready (rs := [1]) (by kernel_rfl) (by simp) ?_
      refine AllReadyH.cons (o := { dst := some 7, op := Op.call { callee := Callee.value (Operand.func 95), args := #[Operand.tmp 6], argTypes := #[65] }, type := 4, pos := "l3_sums.go:219", after := #[{ on := 0, ground := Ground.data }], guard := none }) rfl (fun K hK => ?_) AllReadyH.nil
      go_simp
      go_wp2_with (go_at_call 95; refine (HI.out _).mono ?_; rintro e w3 ⟨rfl, hB⟩; have hb := (Below.refl w0.heap.size w0).drew.trans hB; have y0 := keep1 hb a0; have y1 := keep1 hb a1; have y2 := keep1 hb b0; have y3 := keep1 hb b1; have HC3 := Lib.hid hb; clear hB hb)
      refine hK.out _ _ ?_ (fun hHeld => ?_)
      · exact ⟨y0, y1, y2, y3⟩
      clear hK K
      (try simp only [Act.put, List.setIfInBounds_toArray, List.set_cons_zero, List.set_cons_succ])
      refine wpAnyH_take (i := 2) (oi := { dst := some 8, op := Op.unOp UnOp.not 4 (Operand.tmp 7), type := 4, pos := "l3_sums.go:219", after := #[{ on := 1, ground := Ground.data }], guard := none }) (v := ?_) rfl (by kernel_rfl) (by kernel_rfl) (by kernel_rfl) (fun _ _ _ h => h) (Or.inl ⟨by rfl, ?_⟩) (by assumption) ?_
      rotate_left
      · (intro w hSw; (try dsimp only at hSw); go_simp <;> with_reducible rfl)
      (try simp only [Act.put, List.setIfInBounds_toArray, List.set_cons_zero, List.set_cons_succ])
      refine wpAnyH_take (i := 3) (oi := { dst := some 9, op := Op.move (Operand.tmp 8), type := 4, pos := "l3_sums.go:219", after := #[{ on := 2, ground := Ground.data }, { on := 1, ground := Ground.chain }], guard := none }) (v := ?_) rfl (by kernel_rfl) (by kernel_rfl) (by kernel_rfl) (fun _ _ _ h => h) (Or.inl ⟨by rfl, ?_⟩) (by assumption) ?_
      rotate_left
      · (intro w hSw; (try dsimp only at hSw); go_simp <;> with_reducible rfl)
      (try simp only [Act.put, List.setIfInBounds_toArray, List.set_cons_zero, List.set_cons_succ])
      refine wpAnyH_take (i := 4) (oi := { dst := some 10, op := Op.load 65 (Operand.tmp 3), type := 65, pos := "l3_sums.go:219", after := #[{ on := 3, ground := Ground.guard }], guard := some (3, true) }) (v := ?_) rfl (by kernel_rfl) (by kernel_rfl) (by kernel_rfl) (fun _ _ _ h => h) (Or.inl ⟨by rfl, ?_⟩) (by assumption) ?_
      rotate_left
      · (intro w hSw; (try dsimp only at hSw); go_simp <;> with_reducible rfl)
      (try simp only [Act.put, List.setIfInBounds_toArray, List.set_cons_zero, List.set_cons_succ])
      refine wpAnyH_ready (rs := [5]) (by kernel_rfl) (by simp) ?_
      refine AllReadyH.cons (o := { dst := some 11, op := Op.call { callee := Callee.value (Operand.func 95), args := #[Operand.tmp 10], argTypes := #[65] }, type := 4, pos := "l3_sums.go:219", after := #[{ on := 4, ground := Ground.data }, { on := 3, ground := Ground.chain }, { on := 3, ground := Ground.guard }], guard := some (3, true) }) rfl (fun K hK => ?_) AllReadyH.nil
      go_simp
      go_wp2_with (go_at_call 95; refine (HI'.out _).mono ?_; rintro e w4 ⟨rfl, hB⟩; have hb := HC3.out.trans (hB.mono HC3.out.size); have z0 := keep1 hb a0; have z1 := keep1 hb a1; have z2 := keep1 hb b0; have z3 := keep1 hb b1; have HC4 := Lib.hid hb; clear hB hb)
      refine hK.out _ _ ?_ (fun hHeld => ?_)
      · exact ⟨z0, z1, z2, z3⟩
      clear hK K
      (try simp only [Act.put, List.setIfInBounds_toArray, List.set_cons_zero, List.set_cons_succ])
      refine wpAnyH_take (i := 6) (oi := { dst := some 12, op := Op.unOp UnOp.not 4 (Operand.tmp 11), type := 4, pos := "l3_sums.go:219", after := #[{ on := 5, ground := Ground.data }, { on := 3, ground := Ground.guard }], guard := some (3, true) }) (v := ?_) rfl (by kernel_rfl) (by kernel_rfl) (by kernel_rfl) (fun _ _ _ h => h) (Or.inl ⟨by rfl, ?_⟩) (by assumption) ?_
      rotate_left
      · (intro w hSw; (try dsimp only at hSw); go_simp <;> with_reducible rfl)
      (try simp only [Act.put, List.setIfInBounds_toArray, List.set_cons_zero, List.set_cons_succ])
      refine wpAnyH_take (i := 7) (oi := { dst := some 13, op := Op.pick (Operand.tmp 9) (Operand.tmp 12) (Operand.const (Value.bool false)), type := 4, pos := "l3_sums.go:219", after := #[{ on := 3, ground := Ground.data }, { on := 6, ground := Ground.data }], guard := none }) (v := ?_) rfl (by kernel_rfl) (by kernel_rfl) (by kernel_rfl) (fun _ _ _ h => h) (Or.inl ⟨by rfl, ?_⟩) (by assumption) ?_
      rotate_left
      · (intro w hSw; (try dsimp only at hSw); go_simp <;> with_reducible rfl)
      (try simp only [Act.put, List.setIfInBounds_toArray, List.set_cons_zero, List.set_cons_succ])
      refine wpAnyH_take (i := 8) (oi := { dst := some 14, op := Op.move (Operand.tmp 13), type := 4, pos := "l3_sums.go:219", after := #[{ on := 7, ground := Ground.data }, { on := 5, ground := Ground.chain }], guard := none }) (v := ?_) rfl (by kernel_rfl) (by kernel_rfl) (by kernel_rfl) (fun _ _ _ h => h) (Or.inl ⟨by rfl, ?_⟩) (by assumption) ?_
      rotate_left
      · (intro w hSw; (try dsimp only at hSw); go_simp <;> with_reducible rfl)
      (try simp only [Act.put, List.setIfInBounds_toArray, List.set_cons_zero, List.set_cons_succ])
      refine wpAnyH_take (i := 9) (oi := { dst := some 15, op := Op.load 65 (Operand.tmp 2), type := 65, pos := "l3_sums.go:219", after := #[{ on := 8, ground := Ground.guard }], guard := some (8, true) }) (v := undef) rfl (by kernel_rfl) (by kernel_rfl) (by kernel_rfl) (fun _ _ _ h => h) (Or.inr ⟨by rfl, rfl⟩) (by assumption) ?_
      (try simp only [Act.put, List.setIfInBounds_toArray, List.set_cons_zero, List.set_cons_succ])
      refine wpAnyH_take (i := 10) (oi := { dst := some 16, op := Op.call { callee := Callee.value (Operand.func 96), args := #[Operand.tmp 15], argTypes := #[65] }, type := 3, pos := "l3_sums.go:219", after := #[{ on := 9, ground := Ground.data }, { on := 8, ground := Ground.chain }, { on := 8, ground := Ground.guard }], guard := some (8, true) }) (v := undef) rfl (by kernel_rfl) (by kernel_rfl) (by kernel_rfl) (fun _ _ _ h => h) (Or.inr ⟨by rfl, rfl⟩) (by assumption) ?_
      (try simp only [Act.put, List.setIfInBounds_toArray, List.set_cons_zero, List.set_cons_succ])
      refine wpAnyH_take (i := 11) (oi := { dst := some 17, op := Op.load 65 (Operand.tmp 3), type := 65, pos := "l3_sums.go:219", after := #[{ on := 8, ground := Ground.guard }], guard := some (8, true) }) (v := undef) rfl (by kernel_rfl) (by kernel_rfl) (by kernel_rfl) (fun _ _ _ h => h) (Or.inr ⟨by rfl, rfl⟩) (by assumption) ?_
      (try simp only [Act.put, List.setIfInBounds_toArray, List.set_cons_zero, List.set_cons_succ])
      refine wpAnyH_take (i := 12) (oi := { dst := some 18, op := Op.call { callee := Callee.value (Operand.func 96), args := #[Operand.tmp 17], argTypes := #[65] }, type := 3, pos := "l3_sums.go:219", after := #[{ on := 11, ground := Ground.data }, { on := 10, ground := Ground.chain }, { on := 8, ground := Ground.guard }], guard := some (8, true) }) (v := undef) rfl (by kernel_rfl) (by kernel_rfl) (by kernel_rfl) (fun _ _ _ h => h) (Or.inr ⟨by rfl, rfl⟩) (by assumption) ?_
      (try simp only [Act.put, List.setIfInBounds_toArray, List.set_cons_zero, List.set_cons_succ])
      refine wpAnyH_take (i := 13) (oi := { dst := some 19, op := Op.binOp BinOp.neq 3 (Operand.tmp 16) (Operand.tmp 18) 3, type := 4, pos := "l3_sums.go:219", after := #[{ on := 10, ground := Ground.data }, { on := 12, ground := Ground.data }, { on := 8, ground := Ground.guard }], guard := some (8, true) }) (v := undef) rfl (by kernel_rfl) (by kernel_rfl) (by kernel_rfl) (fun _ _ _ h => h) (Or.inr ⟨by rfl, rfl⟩) (by assumption) ?_
      (try simp only [Act.put, List.setIfInBounds_toArray, List.set_cons_zero, List.set_cons_succ])
      refine wpAnyH_take (i := 14) (oi := { dst := some 20, op := Op.pick (Operand.tmp 14) (Operand.tmp 19) (Operand.const (Value.bool false)), type := 4, pos := "l3_sums.go:219", after := #[{ on := 8, ground := Ground.data }, { on := 13, ground := Ground.data }], guard := none }) (v := ?_) rfl (by kernel_rfl) (by kernel_rfl) (by kernel_rfl) (fun _ _ _ h => h) (Or.inl ⟨by rfl, ?_⟩) (by assumption) ?_
      rotate_left
      · (intro w hSw; (try dsimp only at hSw); go_simp <;> with_reducible rfl)
      (try simp only [Act.put, List.setIfInBounds_toArray, List.set_cons_zero, List.set_cons_succ])
      refine wpAnyH_done (by kernel_rfl) ?_ _
      all_goals
        go_wp2_with fail
        refine (HP.out _ HC4.out).mono ?_
        rintro e u6 ⟨hB6, g6, c6, rfl, hr6⟩
        have hb6 := HC4.out.trans (hB6.mono HC4.out.size)
        obtain ⟨r0, r1, fr0, fr1⟩ := two_cells ((hb6.block _ hl2).trans HR.out)
        have HB6 := Lib.hid hb6
        have HR6 := Lib.hid hr6
        have hs6 := hb6.size
        have hs5 := HC4.out.size
        clear hB6 hb6 hr6
        go_wp2_with fail
        refine bodyPost_ret (v := .tuple #[.agg #[(.func (.func 57) #[] #[]), .slice (some ⟨g6, 0, none⟩) (canon (ps ++ qs)).length c6], .bool true]) (by simp [results, Try.results59, go_sem, r0, r1]) rfl ?_
        refine ⟨((below_step HB0.out HB6.out).setCell (p := ⟨w.heap.size + 1 + 1, 0, none⟩) (by simp; omega) _).setCell (p := ⟨w.heap.size + 1 + 1, 1, none⟩) (by simp; omega) _, .inr ⟨HYA.out, g6, c6, rfl, ?_⟩⟩
        have h2 := HSZ.out
        refine HR6.out.keep (by decide) (fun q u hq hu => ?_) (fun b h _ => trivial)
        have hne : q.block ≠ w.heap.size + 1 + 1 := by
          rcases hq with h | h
          · omega
          · omega
        exact cell_put_two hu hne _ _
    · rw [decide_eq_false h2] at HI'
      obtain ⟨p, ps', hp0⟩ : ∃ p ps', ps = p :: ps' := by
        cases ps with
        | nil => exact absurd HNN.out h1
        | cons p ps' => exact ⟨p, ps', rfl⟩
      obtain ⟨q, qs', hq0⟩ : ∃ q qs', qs = q :: qs' := by
        cases qs with
        | nil => exact absurd HNN'.out h2
        | cons q qs' => exact ⟨q, qs', rfl⟩
      obtain ⟨L, hL⟩ : ∃ L, L = p.2.leaves := ⟨_, rfl⟩
      obtain ⟨L', hL'⟩ : ∃ L, L = q.2.leaves := ⟨_, rfl⟩
      have hpp := HPS.out p (by rw [hp0]; simp)
      have hqq := HPS.out q (by rw [hq0]; simp)
      have HL := Lib.hid (fun (W : World) (hb : Below w0.heap.size w0 W) => sumLeaves_any p ps' n g c L W (by omega) hpp.1 (by omega) hL (by have h := HRR.out; rw [hp0] at h; exact h.below (by decide) hb))
      have HL' := Lib.hid (fun (W : World) (hb : Below w0.heap.size w0 W) => sumLeaves_any q qs' n' g' c' L' W (by omega) hqq.1 (by omega) hL' (by have h := HRR'.out; rw [hq0] at h; exact h.below (by decide) hb))
      have HAL : Hid (alike ps qs = decide (L = L')) := Lib.hid (by rw [hp0, hq0, hL, hL']; rfl)
      clear h1 h2 hpp hqq hL hL' hp0 hq0
      by_cases hLL : L = L'
      · have HYA : Hid (alike ps qs = true) := Lib.hid (by rw [HAL.out]; exact decide_eq_true hLL)
        have l1 : ((L : Int) != (L' : Int)) = false := by simp; omega
        have l2 : ((L : Int) == (L' : Int)) = true := by simp; omega
        have l3 : (L != L') = false := by simpa using hLL
        have l4 : (L == L') = true := by simpa using hLL
        go_enter Try.func59, Try.ntmps59
        go_wp2_with fail
        rw [← HW0.out]
        refine wp_region_held_drew (S := (fun w' => w'.cell? ⟨w.heap.size, 0, none⟩ = some (.func (.func 57) #[] #[]) ∧ w'.cell? ⟨w.heap.size, 1, none⟩ = some (.slice (some ⟨g, 0, none⟩) n c) ∧ w'.cell? ⟨w.heap.size + 1, 0, none⟩ = some (.func (.func 57) #[] #[]) ∧ w'.cell? ⟨w.heap.size + 1, 1, none⟩ = some (.slice (some ⟨g', 0, none⟩) n' c'))) (by kernel_rfl) (by exact ⟨a0, a1, b0, b1⟩) (fun hHeld => ?_)
        refine wpAnyH_take (i := 0) (oi := { dst := some 6, op := Op.load 65 (Operand.tmp 2), type := 65, pos := "l3_sums.go:219", after := #[], guard := none }) (v := ?_) rfl (by kernel_rfl) (by kernel_rfl) (by kernel_rfl) (fun _ _ _ h => h) (Or.inl ⟨by rfl, ?_⟩) (by assumption) ?_
        rotate_left
        · (intro w hSw; (try dsimp only at hSw); go_simp <;> with_reducible rfl)
        (try simp only [Act.put, List.setIfInBounds_toArray, List.set_cons_zero, List.set_cons_succ])
        refine wpAnyH_ready (rs := [1]) (by kernel_rfl) (by simp) ?_
        refine AllReadyH.cons (o := { dst := some 7, op := Op.call { callee := Callee.value (Operand.func 95), args := #[Operand.tmp 6], argTypes := #[65] }, type := 4, pos := "l3_sums.go:219", after := #[{ on := 0, ground := Ground.data }], guard := none }) rfl (fun K hK => ?_) AllReadyH.nil
        go_simp
        go_wp2_with (go_at_call 95; refine (HI.out _).mono ?_; rintro e w3 ⟨rfl, hB⟩; have hb := (Below.refl w0.heap.size w0).drew.trans hB; have y0 := keep1 hb a0; have y1 := keep1 hb a1; have y2 := keep1 hb b0; have y3 := keep1 hb b1; have HC3 := Lib.hid hb; clear hB hb)
        refine hK.out _ _ ?_ (fun hHeld => ?_)
        · exact ⟨y0, y1, y2, y3⟩
        clear hK K
        (try simp only [Act.put, List.setIfInBounds_toArray, List.set_cons_zero, List.set_cons_succ])
        refine wpAnyH_take (i := 2) (oi := { dst := some 8, op := Op.unOp UnOp.not 4 (Operand.tmp 7), type := 4, pos := "l3_sums.go:219", after := #[{ on := 1, ground := Ground.data }], guard := none }) (v := ?_) rfl (by kernel_rfl) (by kernel_rfl) (by kernel_rfl) (fun _ _ _ h => h) (Or.inl ⟨by rfl, ?_⟩) (by assumption) ?_
        rotate_left
        · (intro w hSw; (try dsimp only at hSw); go_simp <;> with_reducible rfl)
        (try simp only [Act.put, List.setIfInBounds_toArray, List.set_cons_zero, List.set_cons_succ])
        refine wpAnyH_take (i := 3) (oi := { dst := some 9, op := Op.move (Operand.tmp 8), type := 4, pos := "l3_sums.go:219", after := #[{ on := 2, ground := Ground.data }, { on := 1, ground := Ground.chain }], guard := none }) (v := ?_) rfl (by kernel_rfl) (by kernel_rfl) (by kernel_rfl) (fun _ _ _ h => h) (Or.inl ⟨by rfl, ?_⟩) (by assumption) ?_
        rotate_left
        · (intro w hSw; (try dsimp only at hSw); go_simp <;> with_reducible rfl)
        (try simp only [Act.put, List.setIfInBounds_toArray, List.set_cons_zero, List.set_cons_succ])
        refine wpAnyH_take (i := 4) (oi := { dst := some 10, op := Op.load 65 (Operand.tmp 3), type := 65, pos := "l3_sums.go:219", after := #[{ on := 3, ground := Ground.guard }], guard := some (3, true) }) (v := ?_) rfl (by kernel_rfl) (by kernel_rfl) (by kernel_rfl) (fun _ _ _ h => h) (Or.inl ⟨by rfl, ?_⟩) (by assumption) ?_
        rotate_left
        · (intro w hSw; (try dsimp only at hSw); go_simp <;> with_reducible rfl)
        (try simp only [Act.put, List.setIfInBounds_toArray, List.set_cons_zero, List.set_cons_succ])
        refine wpAnyH_ready (rs := [5]) (by kernel_rfl) (by simp) ?_
        refine AllReadyH.cons (o := { dst := some 11, op := Op.call { callee := Callee.value (Operand.func 95), args := #[Operand.tmp 10], argTypes := #[65] }, type := 4, pos := "l3_sums.go:219", after := #[{ on := 4, ground := Ground.data }, { on := 3, ground := Ground.chain }, { on := 3, ground := Ground.guard }], guard := some (3, true) }) rfl (fun K hK => ?_) AllReadyH.nil
        go_simp
        go_wp2_with (go_at_call 95; refine (HI'.out _).mono ?_; rintro e w4 ⟨rfl, hB⟩; have hb := HC3.out.trans (hB.mono HC3.out.size); have z0 := keep1 hb a0; have z1 := keep1 hb a1; have z2 := keep1 hb b0; have z3 := keep1 hb b1; have HC4 := Lib.hid hb; clear hB hb)
        refine hK.out _ _ ?_ (fun hHeld => ?_)
        · exact ⟨z0, z1, z2, z3⟩
        clear hK K
        (try simp only [Act.put, List.setIfInBounds_toArray, List.set_cons_zero, List.set_cons_succ])
        refine wpAnyH_take (i := 6) (oi := { dst := some 12, op := Op.unOp UnOp.not 4 (Operand.tmp 11), type := 4, pos := "l3_sums.go:219", after := #[{ on := 5, ground := Ground.data }, { on := 3, ground := Ground.guard }], guard := some (3, true) }) (v := ?_) rfl (by kernel_rfl) (by kernel_rfl) (by kernel_rfl) (fun _ _ _ h => h) (Or.inl ⟨by rfl, ?_⟩) (by assumption) ?_
        rotate_left
        · (intro w hSw; (try dsimp only at hSw); go_simp <;> with_reducible rfl)
        (try simp only [Act.put, List.setIfInBounds_toArray, List.set_cons_zero, List.set_cons_succ])
        refine wpAnyH_take (i := 7) (oi := { dst := some 13, op := Op.pick (Operand.tmp 9) (Operand.tmp 12) (Operand.const (Value.bool false)), type := 4, pos := "l3_sums.go:219", after := #[{ on := 3, ground := Ground.data }, { on := 6, ground := Ground.data }], guard := none }) (v := ?_) rfl (by kernel_rfl) (by kernel_rfl) (by kernel_rfl) (fun _ _ _ h => h) (Or.inl ⟨by rfl, ?_⟩) (by assumption) ?_
        rotate_left
        · (intro w hSw; (try dsimp only at hSw); go_simp <;> with_reducible rfl)
        (try simp only [Act.put, List.setIfInBounds_toArray, List.set_cons_zero, List.set_cons_succ])
        refine wpAnyH_take (i := 8) (oi := { dst := some 14, op := Op.move (Operand.tmp 13), type := 4, pos := "l3_sums.go:219", after := #[{ on := 7, ground := Ground.data }, { on := 5, ground := Ground.chain }], guard := none }) (v := ?_) rfl (by kernel_rfl) (by kernel_rfl) (by kernel_rfl) (fun _ _ _ h => h) (Or.inl ⟨by rfl, ?_⟩) (by assumption) ?_
        rotate_left
        · (intro w hSw; (try dsimp only at hSw); go_simp <;> with_reducible rfl)
        (try simp only [Act.put, List.setIfInBounds_toArray, List.set_cons_zero, List.set_cons_succ])
        refine wpAnyH_take (i := 9) (oi := { dst := some 15, op := Op.load 65 (Operand.tmp 2), type := 65, pos := "l3_sums.go:219", after := #[{ on := 8, ground := Ground.guard }], guard := some (8, true) }) (v := ?_) rfl (by kernel_rfl) (by kernel_rfl) (by kernel_rfl) (fun _ _ _ h => h) (Or.inl ⟨by rfl, ?_⟩) (by assumption) ?_
        rotate_left
        · (intro w hSw; (try dsimp only at hSw); go_simp <;> with_reducible rfl)
        (try simp only [Act.put, List.setIfInBounds_toArray, List.set_cons_zero, List.set_cons_succ])
        refine wpAnyH_take (i := 11) (oi := { dst := some 17, op := Op.load 65 (Operand.tmp 3), type := 65, pos := "l3_sums.go:219", after := #[{ on := 8, ground := Ground.guard }], guard := some (8, true) }) (v := ?_) rfl (by kernel_rfl) (by kernel_rfl) (by kernel_rfl) (fun _ _ _ h => h) (Or.inl ⟨by rfl, ?_⟩) (by assumption) ?_
        rotate_left
        · (intro w hSw; (try dsimp only at hSw); go_simp <;> with_reducible rfl)
        (try simp only [Act.put, List.setIfInBounds_toArray, List.set_cons_zero, List.set_cons_succ])
        refine wpAnyH_ready (rs := [10]) (by kernel_rfl) (by simp) ?_
        refine AllReadyH.cons (o := { dst := some 16, op := Op.call { callee := Callee.value (Operand.func 96), args := #[Operand.tmp 15], argTypes := #[65] }, type := 3, pos := "l3_sums.go:219", after := #[{ on := 9, ground := Ground.data }, { on := 8, ground := Ground.chain }, { on := 8, ground := Ground.guard }], guard := some (8, true) }) rfl (fun K hK => ?_) AllReadyH.nil
        go_simp
        go_wp2_with (go_at_call 96; refine (HL.out _ HC4.out).mono ?_; rintro e w5 ⟨rfl, hB⟩; have hb := HC4.out.trans (hB.mono HC4.out.size); have u0 := keep1 hb a0; have u1 := keep1 hb a1; have u2 := keep1 hb b0; have u3 := keep1 hb b1; have HC5 := Lib.hid hb; clear hB hb)
        refine hK.out _ _ ?_ (fun hHeld => ?_)
        · exact ⟨u0, u1, u2, u3⟩
        clear hK K
        (try simp only [Act.put, List.setIfInBounds_toArray, List.set_cons_zero, List.set_cons_succ])
        refine wpAnyH_ready (rs := [12]) (by kernel_rfl) (by simp) ?_
        refine AllReadyH.cons (o := { dst := some 18, op := Op.call { callee := Callee.value (Operand.func 96), args := #[Operand.tmp 17], argTypes := #[65] }, type := 3, pos := "l3_sums.go:219", after := #[{ on := 11, ground := Ground.data }, { on := 10, ground := Ground.chain }, { on := 8, ground := Ground.guard }], guard := some (8, true) }) rfl (fun K hK => ?_) AllReadyH.nil
        go_simp
        go_wp2_with (go_at_call 96; refine (HL'.out _ HC5.out).mono ?_; rintro e w6 ⟨rfl, hB⟩; have hb := HC5.out.trans (hB.mono HC5.out.size); have v0 := keep1 hb a0; have v1 := keep1 hb a1; have v2 := keep1 hb b0; have v3 := keep1 hb b1; have HC6 := Lib.hid hb; clear hB hb)
        refine hK.out _ _ ?_ (fun hHeld => ?_)
        · exact ⟨v0, v1, v2, v3⟩
        clear hK K
        (try simp only [Act.put, List.setIfInBounds_toArray, List.set_cons_zero, List.set_cons_succ])
        refine wpAnyH_take (i := 13) (oi := { dst := some 19, op := Op.binOp BinOp.neq 3 (Operand.tmp 16) (Operand.tmp 18) 3, type := 4, pos := "l3_sums.go:219", after := #[{ on := 10, ground := Ground.data }, { on := 12, ground := Ground.data }, { on := 8, ground := Ground.guard }], guard := some (8, true) }) (v := ?_) rfl (by kernel_rfl) (by kernel_rfl) (by kernel_rfl) (fun _ _ _ h => h) (Or.inl ⟨by rfl, ?_⟩) (by assumption) ?_
        rotate_left
        · (intro w hSw; (try dsimp only at hSw); go_simp <;> with_reducible rfl)
        (try simp only [Act.put, List.setIfInBounds_toArray, List.set_cons_zero, List.set_cons_succ])
        refine wpAnyH_take (i := 14) (oi := { dst := some 20, op := Op.pick (Operand.tmp 14) (Operand.tmp 19) (Operand.const (Value.bool false)), type := 4, pos := "l3_sums.go:219", after := #[{ on := 8, ground := Ground.data }, { on := 13, ground := Ground.data }], guard := none }) (v := ?_) rfl (by kernel_rfl) (by kernel_rfl) (by kernel_rfl) (fun _ _ _ h => h) (Or.inl ⟨by rfl, ?_⟩) (by assumption) ?_
        rotate_left
        · (intro w hSw; (try dsimp only at hSw); go_simp <;> with_reducible rfl)
        (try simp only [Act.put, List.setIfInBounds_toArray, List.set_cons_zero, List.set_cons_succ])
        refine wpAnyH_done (by kernel_rfl) ?_ _
        all_goals
          go_wp2_with fail
          refine (HP.out _ HC6.out).mono ?_
          rintro e u6 ⟨hB6, g6, c6, rfl, hr6⟩
          have hb6 := HC6.out.trans (hB6.mono HC6.out.size)
          obtain ⟨r0, r1, fr0, fr1⟩ := two_cells ((hb6.block _ hl2).trans HR.out)
          have HB6 := Lib.hid hb6
          have HR6 := Lib.hid hr6
          have hs6 := hb6.size
          have hs5 := HC6.out.size
          clear hB6 hb6 hr6
          go_wp2_with fail
          refine bodyPost_ret (v := .tuple #[.agg #[(.func (.func 57) #[] #[]), .slice (some ⟨g6, 0, none⟩) (canon (ps ++ qs)).length c6], .bool true]) (by simp [results, Try.results59, go_sem, r0, r1]) rfl ?_
          refine ⟨((below_step HB0.out HB6.out).setCell (p := ⟨w.heap.size + 1 + 1, 0, none⟩) (by simp; omega) _).setCell (p := ⟨w.heap.size + 1 + 1, 1, none⟩) (by simp; omega) _, .inr ⟨HYA.out, g6, c6, rfl, ?_⟩⟩
          have h2 := HSZ.out
          refine HR6.out.keep (by decide) (fun q u hq hu => ?_) (fun b h _ => trivial)
          have hne : q.block ≠ w.heap.size + 1 + 1 := by
            rcases hq with h | h
            · omega
            · omega
          exact cell_put_two hu hne _ _
      · have HNA : Hid (alike ps qs = false) := Lib.hid (by rw [HAL.out]; exact decide_eq_false hLL)
        have l1 : ((L : Int) != (L' : Int)) = true := by simp; omega
        have l2 : ((L : Int) == (L' : Int)) = false := by simp; omega
        have l3 : (L != L') = true := by simpa using hLL
        have l4 : (L == L') = false := by simpa using hLL
        go_enter Try.func59, Try.ntmps59
        go_wp2_with fail
        rw [← HW0.out]
        refine wp_region_held_drew (S := (fun w' => w'.cell? ⟨w.heap.size, 0, none⟩ = some (.func (.func 57) #[] #[]) ∧ w'.cell? ⟨w.heap.size, 1, none⟩ = some (.slice (some ⟨g, 0, none⟩) n c) ∧ w'.cell? ⟨w.heap.size + 1, 0, none⟩ = some (.func (.func 57) #[] #[]) ∧ w'.cell? ⟨w.heap.size + 1, 1, none⟩ = some (.slice (some ⟨g', 0, none⟩) n' c'))) (by kernel_rfl) (by exact ⟨a0, a1, b0, b1⟩) (fun hHeld => ?_)
        refine wpAnyH_take (i := 0) (oi := { dst := some 6, op := Op.load 65 (Operand.tmp 2), type := 65, pos := "l3_sums.go:219", after := #[], guard := none }) (v := ?_) rfl (by kernel_rfl) (by kernel_rfl) (by kernel_rfl) (fun _ _ _ h => h) (Or.inl ⟨by rfl, ?_⟩) (by assumption) ?_
        rotate_left
        · (intro w hSw; (try dsimp only at hSw); go_simp <;> with_reducible rfl)
        (try simp only [Act.put, List.setIfInBounds_toArray, List.set_cons_zero, List.set_cons_succ])
        refine wpAnyH_ready (rs := [1]) (by kernel_rfl) (by simp) ?_
        refine AllReadyH.cons (o := { dst := some 7, op := Op.call { callee := Callee.value (Operand.func 95), args := #[Operand.tmp 6], argTypes := #[65] }, type := 4, pos := "l3_sums.go:219", after := #[{ on := 0, ground := Ground.data }], guard := none }) rfl (fun K hK => ?_) AllReadyH.nil
        go_simp
        go_wp2_with (go_at_call 95; refine (HI.out _).mono ?_; rintro e w3 ⟨rfl, hB⟩; have hb := (Below.refl w0.heap.size w0).drew.trans hB; have y0 := keep1 hb a0; have y1 := keep1 hb a1; have y2 := keep1 hb b0; have y3 := keep1 hb b1; have HC3 := Lib.hid hb; clear hB hb)
        refine hK.out _ _ ?_ (fun hHeld => ?_)
        · exact ⟨y0, y1, y2, y3⟩
        clear hK K
        (try simp only [Act.put, List.setIfInBounds_toArray, List.set_cons_zero, List.set_cons_succ])
        refine wpAnyH_take (i := 2) (oi := { dst := some 8, op := Op.unOp UnOp.not 4 (Operand.tmp 7), type := 4, pos := "l3_sums.go:219", after := #[{ on := 1, ground := Ground.data }], guard := none }) (v := ?_) rfl (by kernel_rfl) (by kernel_rfl) (by kernel_rfl) (fun _ _ _ h => h) (Or.inl ⟨by rfl, ?_⟩) (by assumption) ?_
        rotate_left
        · (intro w hSw; (try dsimp only at hSw); go_simp <;> with_reducible rfl)
        (try simp only [Act.put, List.setIfInBounds_toArray, List.set_cons_zero, List.set_cons_succ])
        refine wpAnyH_take (i := 3) (oi := { dst := some 9, op := Op.move (Operand.tmp 8), type := 4, pos := "l3_sums.go:219", after := #[{ on := 2, ground := Ground.data }, { on := 1, ground := Ground.chain }], guard := none }) (v := ?_) rfl (by kernel_rfl) (by kernel_rfl) (by kernel_rfl) (fun _ _ _ h => h) (Or.inl ⟨by rfl, ?_⟩) (by assumption) ?_
        rotate_left
        · (intro w hSw; (try dsimp only at hSw); go_simp <;> with_reducible rfl)
        (try simp only [Act.put, List.setIfInBounds_toArray, List.set_cons_zero, List.set_cons_succ])
        refine wpAnyH_take (i := 4) (oi := { dst := some 10, op := Op.load 65 (Operand.tmp 3), type := 65, pos := "l3_sums.go:219", after := #[{ on := 3, ground := Ground.guard }], guard := some (3, true) }) (v := ?_) rfl (by kernel_rfl) (by kernel_rfl) (by kernel_rfl) (fun _ _ _ h => h) (Or.inl ⟨by rfl, ?_⟩) (by assumption) ?_
        rotate_left
        · (intro w hSw; (try dsimp only at hSw); go_simp <;> with_reducible rfl)
        (try simp only [Act.put, List.setIfInBounds_toArray, List.set_cons_zero, List.set_cons_succ])
        refine wpAnyH_ready (rs := [5]) (by kernel_rfl) (by simp) ?_
        refine AllReadyH.cons (o := { dst := some 11, op := Op.call { callee := Callee.value (Operand.func 95), args := #[Operand.tmp 10], argTypes := #[65] }, type := 4, pos := "l3_sums.go:219", after := #[{ on := 4, ground := Ground.data }, { on := 3, ground := Ground.chain }, { on := 3, ground := Ground.guard }], guard := some (3, true) }) rfl (fun K hK => ?_) AllReadyH.nil
        go_simp
        go_wp2_with (go_at_call 95; refine (HI'.out _).mono ?_; rintro e w4 ⟨rfl, hB⟩; have hb := HC3.out.trans (hB.mono HC3.out.size); have z0 := keep1 hb a0; have z1 := keep1 hb a1; have z2 := keep1 hb b0; have z3 := keep1 hb b1; have HC4 := Lib.hid hb; clear hB hb)
        refine hK.out _ _ ?_ (fun hHeld => ?_)
        · exact ⟨z0, z1, z2, z3⟩
        clear hK K
        (try simp only [Act.put, List.setIfInBounds_toArray, List.set_cons_zero, List.set_cons_succ])
        refine wpAnyH_take (i := 6) (oi := { dst := some 12, op := Op.unOp UnOp.not 4 (Operand.tmp 11), type := 4, pos := "l3_sums.go:219", after := #[{ on := 5, ground := Ground.data }, { on := 3, ground := Ground.guard }], guard := some (3, true) }) (v := ?_) rfl (by kernel_rfl) (by kernel_rfl) (by kernel_rfl) (fun _ _ _ h => h) (Or.inl ⟨by rfl, ?_⟩) (by assumption) ?_
        rotate_left
        · (intro w hSw; (try dsimp only at hSw); go_simp <;> with_reducible rfl)
        (try simp only [Act.put, List.setIfInBounds_toArray, List.set_cons_zero, List.set_cons_succ])
        refine wpAnyH_take (i := 7) (oi := { dst := some 13, op := Op.pick (Operand.tmp 9) (Operand.tmp 12) (Operand.const (Value.bool false)), type := 4, pos := "l3_sums.go:219", after := #[{ on := 3, ground := Ground.data }, { on := 6, ground := Ground.data }], guard := none }) (v := ?_) rfl (by kernel_rfl) (by kernel_rfl) (by kernel_rfl) (fun _ _ _ h => h) (Or.inl ⟨by rfl, ?_⟩) (by assumption) ?_
        rotate_left
        · (intro w hSw; (try dsimp only at hSw); go_simp <;> with_reducible rfl)
        (try simp only [Act.put, List.setIfInBounds_toArray, List.set_cons_zero, List.set_cons_succ])
        refine wpAnyH_take (i := 8) (oi := { dst := some 14, op := Op.move (Operand.tmp 13), type := 4, pos := "l3_sums.go:219", after := #[{ on := 7, ground := Ground.data }, { on := 5, ground := Ground.chain }], guard := none }) (v := ?_) rfl (by kernel_rfl) (by kernel_rfl) (by kernel_rfl) (fun _ _ _ h => h) (Or.inl ⟨by rfl, ?_⟩) (by assumption) ?_
        rotate_left
        · (intro w hSw; (try dsimp only at hSw); go_simp <;> with_reducible rfl)
        (try simp only [Act.put, List.setIfInBounds_toArray, List.set_cons_zero, List.set_cons_succ])
        refine wpAnyH_take (i := 9) (oi := { dst := some 15, op := Op.load 65 (Operand.tmp 2), type := 65, pos := "l3_sums.go:219", after := #[{ on := 8, ground := Ground.guard }], guard := some (8, true) }) (v := ?_) rfl (by kernel_rfl) (by kernel_rfl) (by kernel_rfl) (fun _ _ _ h => h) (Or.inl ⟨by rfl, ?_⟩) (by assumption) ?_
        rotate_left
        · (intro w hSw; (try dsimp only at hSw); go_simp <;> with_reducible rfl)
        (try simp only [Act.put, List.setIfInBounds_toArray, List.set_cons_zero, List.set_cons_succ])
        refine wpAnyH_take (i := 11) (oi := { dst := some 17, op := Op.load 65 (Operand.tmp 3), type := 65, pos := "l3_sums.go:219", after := #[{ on := 8, ground := Ground.guard }], guard := some (8, true) }) (v := ?_) rfl (by kernel_rfl) (by kernel_rfl) (by kernel_rfl) (fun _ _ _ h => h) (Or.inl ⟨by rfl, ?_⟩) (by assumption) ?_
        rotate_left
        · (intro w hSw; (try dsimp only at hSw); go_simp <;> with_reducible rfl)
        (try simp only [Act.put, List.setIfInBounds_toArray, List.set_cons_zero, List.set_cons_succ])
        refine wpAnyH_ready (rs := [10]) (by kernel_rfl) (by simp) ?_
        refine AllReadyH.cons (o := { dst := some 16, op := Op.call { callee := Callee.value (Operand.func 96), args := #[Operand.tmp 15], argTypes := #[65] }, type := 3, pos := "l3_sums.go:219", after := #[{ on := 9, ground := Ground.data }, { on := 8, ground := Ground.chain }, { on := 8, ground := Ground.guard }], guard := some (8, true) }) rfl (fun K hK => ?_) AllReadyH.nil
        go_simp
        go_wp2_with (go_at_call 96; refine (HL.out _ HC4.out).mono ?_; rintro e w5 ⟨rfl, hB⟩; have hb := HC4.out.trans (hB.mono HC4.out.size); have u0 := keep1 hb a0; have u1 := keep1 hb a1; have u2 := keep1 hb b0; have u3 := keep1 hb b1; have HC5 := Lib.hid hb; clear hB hb)
        refine hK.out _ _ ?_ (fun hHeld => ?_)
        · exact ⟨u0, u1, u2, u3⟩
        clear hK K
        (try simp only [Act.put, List.setIfInBounds_toArray, List.set_cons_zero, List.set_cons_succ])
        refine wpAnyH_ready (rs := [12]) (by kernel_rfl) (by simp) ?_
        refine AllReadyH.cons (o := { dst := some 18, op := Op.call { callee := Callee.value (Operand.func 96), args := #[Operand.tmp 17], argTypes := #[65] }, type := 3, pos := "l3_sums.go:219", after := #[{ on := 11, ground := Ground.data }, { on := 10, ground := Ground.chain }, { on := 8, ground := Ground.guard }], guard := some (8, true) }) rfl (fun K hK => ?_) AllReadyH.nil
        go_simp
        go_wp2_with (go_at_call 96; refine (HL'.out _ HC5.out).mono ?_; rintro e w6 ⟨rfl, hB⟩; have hb := HC5.out.trans (hB.mono HC5.out.size); have v0 := keep1 hb a0; have v1 := keep1 hb a1; have v2 := keep1 hb b0; have v3 := keep1 hb b1; have HC6 := Lib.hid hb; clear hB hb)
        refine hK.out _ _ ?_ (fun hHeld => ?_)
        · exact ⟨v0, v1, v2, v3⟩
        clear hK K
        (try simp only [Act.put, List.setIfInBounds_toArray, List.set_cons_zero, List.set_cons_succ])
        refine wpAnyH_take (i := 13) (oi := { dst := some 19, op := Op.binOp BinOp.neq 3 (Operand.tmp 16) (Operand.tmp 18) 3, type := 4, pos := "l3_sums.go:219", after := #[{ on := 10, ground := Ground.data }, { on := 12, ground := Ground.data }, { on := 8, ground := Ground.guard }], guard := some (8, true) }) (v := ?_) rfl (by kernel_rfl) (by kernel_rfl) (by kernel_rfl) (fun _ _ _ h => h) (Or.inl ⟨by rfl, ?_⟩) (by assumption) ?_
        rotate_left
        · (intro w hSw; (try dsimp only at hSw); go_simp <;> with_reducible rfl)
        (try simp only [Act.put, List.setIfInBounds_toArray, List.set_cons_zero, List.set_cons_succ])
        refine wpAnyH_take (i := 14) (oi := { dst := some 20, op := Op.pick (Operand.tmp 14) (Operand.tmp 19) (Operand.const (Value.bool false)), type := 4, pos := "l3_sums.go:219", after := #[{ on := 8, ground := Ground.data }, { on := 13, ground := Ground.data }], guard := none }) (v := ?_) rfl (by kernel_rfl) (by kernel_rfl) (by kernel_rfl) (fun _ _ _ h => h) (Or.inl ⟨by rfl, ?_⟩) (by assumption) ?_
        rotate_left
        · (intro w hSw; (try dsimp only at hSw); go_simp <;> with_reducible rfl)
        (try simp only [Act.put, List.setIfInBounds_toArray, List.set_cons_zero, List.set_cons_succ])
        refine wpAnyH_done (by kernel_rfl) ?_ _
        all_goals
          obtain ⟨r0, r1, fr0, fr1⟩ := two_cells ((HC6.out.block _ hl2).trans HR.out)
          go_wp2_with fail
          refine bodyPost_ret (v := .tuple #[.agg #[.nilFunc, .slice none 0 0], .bool false]) (by simp [results, Try.results59, go_sem, r0, r1]) rfl ?_
          exact ⟨((below_step HB0.out HC6.out).setCell (p := ⟨w.heap.size + 1 + 1, 0, none⟩) (by simp; omega) _).setCell (p := ⟨w.heap.size + 1 + 1, 1, none⟩) (by simp; omega) _, .inl ⟨HNA.out, rfl⟩⟩
end Go.Proofs.Ytipodlckehodnaa
