/- SumAdd by the model. -/
import Derived.Test.YtipodlckehodnaaSumOpsS
import Derived.Deep.RegionHeld3
import Derived.Deep.QuietTactic
import Derived.BigQuiet
namespace Go.Proofs.Ytipodlckehodnaa
open Go.RowKit

theorem addOf_no1 {xs ys : List (Int × ByteArray)} (h : sumOf xs = none) : addOf xs ys = none := by rw [addOf, h]
theorem addOf_no2 {xs ys : List (Int × ByteArray)} (h : sumOf ys = none) : addOf xs ys = none := by
  rw [addOf, h]; split
  · next h1 h2 => cases h2
  · rfl
theorem addOf_in {xs ys : List (Int × ByteArray)} {ps qs : List Tm} (h : sumOf xs = some ps) (h2 : sumOf ys = some qs) : addOf xs ys = if alike ps qs = true then outOf (canon (ps ++ qs)) else none := by rw [addOf, h, h2]

set_option maxRecDepth 100000 in
set_option maxHeartbeats 1000000 in
theorem sSumAdd_any (xs ys : List (Int × ByteArray)) (n n' : Nat) (hnx : n = xs.length) (hny : n' = ys.length) (g cap g' cap' : Nat) (w : World) (hn : n ≤ 1048576) (hn' : n' ≤ 1048576) (hz : ∀ j (h : j < xs.length), (xs[j]).2.size ≤ 1048576) (hz' : ∀ j (h : j < ys.length), (ys[j]).2.size ≤ 1048576) (hl : TermL w g xs) (hl' : TermL w g' ys) :
    Calls Try.prog 22 #[.slice (some ⟨g, 0, none⟩) n cap, .slice (some ⟨g', 0, none⟩) n' cap'] w (TermsPost (addOf xs ys) w) := by
  have HR := Lib.hid (l3Read_any xs n hnx g cap w hn hz hl)
  have HR' := Lib.hid (fun (W : World) (hb : Below w.heap.size w W) => l3Read_any ys n' hny g' cap' W hn' hz' (hl'.below hb))
  clear hnx hny hz hz' hl hl'
  go_enter Try.func22, Try.ntmps22
  go_wp2_with fail
  refine HR.out.mono ?_
  rintro e w1 ⟨hB1, a1, m1, c1, b1, rfl, hres1⟩
  have HB1 := Lib.hid hB1
  have HRES1 := Lib.hid hres1
  clear hB1 hres1
  go_wp2_with fail
  refine (HR'.out _ HB1.out).mono ?_
  rintro e w2 ⟨hB2, a2, m2, c2, b2, rfl, hres2⟩
  have HB12 := Lib.hid hB2
  have HB2 := Lib.hid (below_step HB1.out hB2)
  clear hB2
  rcases HRES1.out with ⟨hno, rfl⟩ | ⟨ps, hyes, rfl, hk1, hrd, ⟨g1, rfl⟩, hc1, hc2⟩
  · have HN := Lib.hid (addOf_no1 (ys := ys) hno)
    clear hno hres2
    go_wp2_with fail
    go_quiet (fail)
    go_wp2_with fail
    go_ret2
    exact ⟨(below_drewN HB2.out nq).alloc (below_drewN HB2.out nq).size _, .inl ⟨HN.out, _, _, rfl⟩⟩
  · rcases hres2 with ⟨hno, rfl⟩ | ⟨qs, hyes', rfl, hk2, hrd', ⟨g2, rfl⟩, _, _⟩
    · have HN := Lib.hid (addOf_no2 (xs := xs) hno)
      clear hno hyes hrd hk1
      go_wp2_with fail
      go_quiet (fail)
      go_wp2_with fail
      go_ret2
      exact ⟨(below_drewN HB2.out nq).alloc (below_drewN HB2.out nq).size _, .inl ⟨HN.out, _, _, rfl⟩⟩
    · obtain ⟨h60, htr, hnf⟩ := sum_trees hyes
      obtain ⟨h60', htr', _⟩ := sum_trees hyes'
      have HIN := Lib.hid (addOf_in hyes hyes')
      have HRD := Lib.hid (hrd.below (by decide) HB12.out)
      have HRD' := Lib.hid hrd'
      have HSM := Lib.hid (fun (W : World) (hb : Below w2.heap.size w2 W) => l3Sum_any ps qs 1 m1 m2 hk1 hk2 g1 c1 (some ⟨g2, 0, none⟩) c2 W hc1 hc2 (by omega) (by omega) (by omega) (by omega) hnf (fun p hp => by have h := htr p hp; exact ⟨h.1, by omega, by omega⟩) (fun p hp => by have h := htr' p hp; exact ⟨h.1, by omega, by omega, h.2.2.2.1, h.2.2.2.2⟩) (HRD.out.below (by decide) hb) (HRD'.out.below (by decide) hb))
      rw [sclTm_one, addAll_canon hnf] at HSM
      have HOK : Hid (∀ p ∈ canon (ps ++ qs), p.2.leaves ≤ 1000 ∧ p.2.nodes ≤ 1000) := Lib.hid (fun p hp => by
        obtain ⟨q, hq, e⟩ := mem_canon hp
        rw [e]
        rcases List.mem_append.1 hq with h | h
        · have h2 := htr q h; exact ⟨by omega, by omega⟩
        · have h2 := htr' q h; exact ⟨by omega, by omega⟩)
      have HCL : Hid ((canon (ps ++ qs)).length ≤ 1000000) := Lib.hid (by have h1 := canon_length (ps ++ qs); rw [List.length_append] at h1; omega)
      clear hnf
      have hm1 : m1 = ps.length := hk1
      have hm2 : m2 = qs.length := hk2
      by_cases h1 : 0 < m1
      · by_cases h2 : 0 < m2
        · obtain ⟨p, ps', rfl⟩ : ∃ p ps', ps = p :: ps' := by
            cases ps with
            | nil => simp at hk1; omega
            | cons p ps' => exact ⟨p, ps', rfl⟩
          obtain ⟨q, qs', rfl⟩ : ∃ q qs', qs = q :: qs' := by
            cases qs with
            | nil => simp at hk2; omega
            | cons q qs' => exact ⟨q, qs', rfl⟩
          have hp := htr p (by simp)
          have hq := htr' q (by simp)
          obtain ⟨ga, lb, sa, sn, sc, ea, _, c0, c1', c2', hw, hrep⟩ := tmS.get HRD.out 0 (by simp)
          simp only [Option.some.injEq, Addr.mk.injEq, and_true] at ea
          subst ea
          obtain ⟨gb, lb', sa', sn', sc', eb, _, d0, d1', d2', hw', hrep'⟩ := tmS.get HRD'.out 0 (by simp)
          simp only [Option.some.injEq, Addr.mk.injEq, and_true] at eb
          subst eb
          simp only [List.getElem_cons_zero] at hrep hw hrep' hw'
          have HLV := Lib.hid (fun (W : World) (hb : Below w2.heap.size w2 W) => l1Leaves_any _ p.2 _ _ W _ (Nat.le_refl _) hw (by omega) (hrep.below hw hb))
          have HLV' := Lib.hid (fun (W : World) (hb : Below w2.heap.size w2 W) => l1Leaves_any _ q.2 _ _ W _ (Nat.le_refl _) hw' (by omega) (hrep'.below hw' hb))
          obtain ⟨L, hL⟩ : ∃ L, L = p.2.leaves := ⟨_, rfl⟩
          obtain ⟨L', hL'⟩ : ∃ L, L = q.2.leaves := ⟨_, rfl⟩
          have HAL : Hid (alike (p :: ps') (q :: qs') = decide (L = L')) := Lib.hid (by rw [hL, hL']; rfl)
          rw [← hL] at HLV
          rw [← hL'] at HLV'
          have e1 : decide ((0 : Int) < (m1 : Int)) = true := decide_eq_true (by omega)
          have e2 : decide ((0 : Int) < (m2 : Int)) = true := decide_eq_true (by omega)
          have e1n : decide (0 < m1) = true := decide_eq_true h1
          have e2n : decide (0 < m2) = true := decide_eq_true h2
          have i1 : (0 : Int) < (m1 : Int) := by omega
          have i2 : (0 : Int) < (m2 : Int) := by omega
          clear hyes hyes' hrd hrd' htr htr' hk1 hk2 h60 h60' hc1 hc2 hL hL' hp hq hw hw' hrep hrep' hm1 hm2
          rw [Nat.zero_mul, Nat.zero_add] at c1' c2' d1' d2'
          by_cases hLL : L = L'
          · have HYA : Hid (alike (p :: ps') (q :: qs') = true) := Lib.hid (by rw [HAL.out]; exact decide_eq_true hLL)
            have l1 : ((L : Int) != (L' : Int)) = false := by simp; omega
            have l2 : ((L : Int) == (L' : Int)) = true := by simp; omega
            have l3 : (L != L') = false := by simpa using hLL
            have l4 : (L == L') = true := by simpa using hLL
            go_wp2_with fail
            refine wp_region_held_drew (S := (fun w' => w'.cell? ⟨g1, 1, none⟩ = some (.string lb) ∧ w'.cell? ⟨g1, 2, none⟩ = some (.slice sa sn sc) ∧ w'.cell? ⟨g2, 1, none⟩ = some (.string lb') ∧ w'.cell? ⟨g2, 2, none⟩ = some (.slice sa' sn' sc'))) (by kernel_rfl) (by exact ⟨c1', c2', d1', d2'⟩) (fun hHeld => ?_)
            refine wpAnyH_take (i := 0) (oi := { dst := some 20, op := Op.move (Operand.tmp 7), type := 4, pos := "l3_sums.go:101", after := #[], guard := none }) (v := ?_) rfl (by kernel_rfl) (by kernel_rfl) (by kernel_rfl) (fun _ _ _ h => h) (Or.inl ⟨by rfl, ?_⟩) (by assumption) ?_
            rotate_left
            · (intro w hSw; (try dsimp only at hSw); go_simp <;> with_reducible rfl)
            (try simp only [Act.put, List.setIfInBounds_toArray, List.set_cons_zero, List.set_cons_succ])
            refine wpAnyH_take (i := 1) (oi := { dst := some 21, op := Op.unOp UnOp.not 4 (Operand.tmp 20), type := 4, pos := "l3_sums.go:101", after := #[{ on := 0, ground := Ground.data }], guard := none }) (v := ?_) rfl (by kernel_rfl) (by kernel_rfl) (by kernel_rfl) (fun _ _ _ h => h) (Or.inl ⟨by rfl, ?_⟩) (by assumption) ?_
            rotate_left
            · (intro w hSw; (try dsimp only at hSw); go_simp <;> with_reducible rfl)
            (try simp only [Act.put, List.setIfInBounds_toArray, List.set_cons_zero, List.set_cons_succ])
            refine wpAnyH_take (i := 2) (oi := { dst := some 22, op := Op.move (Operand.tmp 21), type := 4, pos := "l3_sums.go:101", after := #[{ on := 1, ground := Ground.data }], guard := none }) (v := ?_) rfl (by kernel_rfl) (by kernel_rfl) (by kernel_rfl) (fun _ _ _ h => h) (Or.inl ⟨by rfl, ?_⟩) (by assumption) ?_
            rotate_left
            · (intro w hSw; (try dsimp only at hSw); go_simp <;> with_reducible rfl)
            (try simp only [Act.put, List.setIfInBounds_toArray, List.set_cons_zero, List.set_cons_succ])
            refine wpAnyH_take (i := 3) (oi := { dst := some 23, op := Op.move (Operand.tmp 9), type := 4, pos := "l3_sums.go:101", after := #[{ on := 2, ground := Ground.guard }], guard := some (2, false) }) (v := ?_) rfl (by kernel_rfl) (by kernel_rfl) (by kernel_rfl) (fun _ _ _ h => h) (Or.inl ⟨by rfl, ?_⟩) (by assumption) ?_
            rotate_left
            · (intro w hSw; (try dsimp only at hSw); go_simp <;> with_reducible rfl)
            (try simp only [Act.put, List.setIfInBounds_toArray, List.set_cons_zero, List.set_cons_succ])
            refine wpAnyH_take (i := 4) (oi := { dst := some 24, op := Op.unOp UnOp.not 4 (Operand.tmp 23), type := 4, pos := "l3_sums.go:101", after := #[{ on := 3, ground := Ground.data }, { on := 2, ground := Ground.guard }], guard := some (2, false) }) (v := ?_) rfl (by kernel_rfl) (by kernel_rfl) (by kernel_rfl) (fun _ _ _ h => h) (Or.inl ⟨by rfl, ?_⟩) (by assumption) ?_
            rotate_left
            · (intro w hSw; (try dsimp only at hSw); go_simp <;> with_reducible rfl)
            (try simp only [Act.put, List.setIfInBounds_toArray, List.set_cons_zero, List.set_cons_succ])
            refine wpAnyH_take (i := 5) (oi := { dst := some 25, op := Op.pick (Operand.tmp 22) (Operand.const (Value.bool true)) (Operand.tmp 24), type := 4, pos := "l3_sums.go:101", after := #[{ on := 2, ground := Ground.data }, { on := 4, ground := Ground.data }], guard := none }) (v := ?_) rfl (by kernel_rfl) (by kernel_rfl) (by kernel_rfl) (fun _ _ _ h => h) (Or.inl ⟨by rfl, ?_⟩) (by assumption) ?_
            rotate_left
            · (intro w hSw; (try dsimp only at hSw); go_simp <;> with_reducible rfl)
            (try simp only [Act.put, List.setIfInBounds_toArray, List.set_cons_zero, List.set_cons_succ])
            refine wpAnyH_take (i := 6) (oi := { dst := some 26, op := Op.move (Operand.tmp 25), type := 4, pos := "l3_sums.go:101", after := #[{ on := 5, ground := Ground.data }, { on := 2, ground := Ground.chain }], guard := none }) (v := ?_) rfl (by kernel_rfl) (by kernel_rfl) (by kernel_rfl) (fun _ _ _ h => h) (Or.inl ⟨by rfl, ?_⟩) (by assumption) ?_
            rotate_left
            · (intro w hSw; (try dsimp only at hSw); go_simp <;> with_reducible rfl)
            (try simp only [Act.put, List.setIfInBounds_toArray, List.set_cons_zero, List.set_cons_succ])
            refine wpAnyH_take (i := 7) (oi := { dst := some 27, op := Op.move (Operand.tmp 6), type := 68, pos := "l3_sums.go:101", after := #[{ on := 6, ground := Ground.guard }], guard := some (6, false) }) (v := ?_) rfl (by kernel_rfl) (by kernel_rfl) (by kernel_rfl) (fun _ _ _ h => h) (Or.inl ⟨by rfl, ?_⟩) (by assumption) ?_
            rotate_left
            · (intro w hSw; (try dsimp only at hSw); go_simp <;> with_reducible rfl)
            (try simp only [Act.put, List.setIfInBounds_toArray, List.set_cons_zero, List.set_cons_succ])
            refine wpAnyH_take (i := 8) (oi := { dst := some 28, op := Op.call { callee := Callee.builtin Builtin.len, args := #[Operand.tmp 27], argTypes := #[68] }, type := 3, pos := "l3_sums.go:101", after := #[{ on := 7, ground := Ground.data }, { on := 6, ground := Ground.guard }], guard := some (6, false) }) (v := ?_) rfl (by kernel_rfl) (by kernel_rfl) (by kernel_rfl) (fun _ _ _ h => h) (Or.inl ⟨by rfl, ?_⟩) (by assumption) ?_
            rotate_left
            · (intro w hSw; (try dsimp only at hSw); go_simp <;> with_reducible rfl)
            (try simp only [Act.put, List.setIfInBounds_toArray, List.set_cons_zero, List.set_cons_succ])
            refine wpAnyH_take (i := 9) (oi := { dst := some 29, op := Op.binOp BinOp.gtr 3 (Operand.tmp 28) (Operand.const (Value.int IntKind.i64 0)) 3, type := 4, pos := "l3_sums.go:101", after := #[{ on := 8, ground := Ground.data }, { on := 6, ground := Ground.guard }], guard := some (6, false) }) (v := ?_) rfl (by kernel_rfl) (by kernel_rfl) (by kernel_rfl) (fun _ _ _ h => h) (Or.inl ⟨by rfl, ?_⟩) (by assumption) ?_
            rotate_left
            · (intro w hSw; (try dsimp only at hSw); go_simp <;> with_reducible rfl)
            (try simp only [Act.put, List.setIfInBounds_toArray, List.set_cons_zero, List.set_cons_succ])
            refine wpAnyH_take (i := 10) (oi := { dst := some 30, op := Op.move (Operand.tmp 29), type := 4, pos := "l3_sums.go:101", after := #[{ on := 9, ground := Ground.data }, { on := 6, ground := Ground.chain }, { on := 6, ground := Ground.guard }], guard := some (6, false) }) (v := ?_) rfl (by kernel_rfl) (by kernel_rfl) (by kernel_rfl) (fun _ _ _ h => h) (Or.inl ⟨by rfl, ?_⟩) (by assumption) ?_
            rotate_left
            · (intro w hSw; (try dsimp only at hSw); go_simp <;> with_reducible rfl)
            (try simp only [Act.put, List.setIfInBounds_toArray, List.set_cons_zero, List.set_cons_succ])
            refine wpAnyH_take (i := 11) (oi := { dst := some 31, op := Op.move (Operand.tmp 8), type := 68, pos := "l3_sums.go:101", after := #[{ on := 10, ground := Ground.guard }], guard := some (10, true) }) (v := ?_) rfl (by kernel_rfl) (by kernel_rfl) (by kernel_rfl) (fun _ _ _ h => h) (Or.inl ⟨by rfl, ?_⟩) (by assumption) ?_
            rotate_left
            · (intro w hSw; (try dsimp only at hSw); go_simp <;> with_reducible rfl)
            (try simp only [Act.put, List.setIfInBounds_toArray, List.set_cons_zero, List.set_cons_succ])
            refine wpAnyH_take (i := 12) (oi := { dst := some 32, op := Op.call { callee := Callee.builtin Builtin.len, args := #[Operand.tmp 31], argTypes := #[68] }, type := 3, pos := "l3_sums.go:101", after := #[{ on := 11, ground := Ground.data }, { on := 10, ground := Ground.guard }], guard := some (10, true) }) (v := ?_) rfl (by kernel_rfl) (by kernel_rfl) (by kernel_rfl) (fun _ _ _ h => h) (Or.inl ⟨by rfl, ?_⟩) (by assumption) ?_
            rotate_left
            · (intro w hSw; (try dsimp only at hSw); go_simp <;> with_reducible rfl)
            (try simp only [Act.put, List.setIfInBounds_toArray, List.set_cons_zero, List.set_cons_succ])
            refine wpAnyH_take (i := 13) (oi := { dst := some 33, op := Op.binOp BinOp.gtr 3 (Operand.tmp 32) (Operand.const (Value.int IntKind.i64 0)) 3, type := 4, pos := "l3_sums.go:101", after := #[{ on := 12, ground := Ground.data }, { on := 10, ground := Ground.guard }], guard := some (10, true) }) (v := ?_) rfl (by kernel_rfl) (by kernel_rfl) (by kernel_rfl) (fun _ _ _ h => h) (Or.inl ⟨by rfl, ?_⟩) (by assumption) ?_
            rotate_left
            · (intro w hSw; (try dsimp only at hSw); go_simp <;> with_reducible rfl)
            (try simp only [Act.put, List.setIfInBounds_toArray, List.set_cons_zero, List.set_cons_succ])
            refine wpAnyH_take (i := 14) (oi := { dst := some 34, op := Op.pick (Operand.tmp 30) (Operand.tmp 33) (Operand.const (Value.bool false)), type := 4, pos := "l3_sums.go:101", after := #[{ on := 10, ground := Ground.data }, { on := 13, ground := Ground.data }, { on := 6, ground := Ground.guard }], guard := some (6, false) }) (v := ?_) rfl (by kernel_rfl) (by kernel_rfl) (by kernel_rfl) (fun _ _ _ h => h) (Or.inl ⟨by rfl, ?_⟩) (by assumption) ?_
            rotate_left
            · (intro w hSw; (try dsimp only at hSw); go_simp <;> with_reducible rfl)
            (try simp only [Act.put, List.setIfInBounds_toArray, List.set_cons_zero, List.set_cons_succ])
            refine wpAnyH_take (i := 15) (oi := { dst := some 35, op := Op.move (Operand.tmp 34), type := 4, pos := "l3_sums.go:101", after := #[{ on := 14, ground := Ground.data }, { on := 10, ground := Ground.chain }, { on := 6, ground := Ground.guard }], guard := some (6, false) }) (v := ?_) rfl (by kernel_rfl) (by kernel_rfl) (by kernel_rfl) (fun _ _ _ h => h) (Or.inl ⟨by rfl, ?_⟩) (by assumption) ?_
            rotate_left
            · (intro w hSw; (try dsimp only at hSw); go_simp <;> with_reducible rfl)
            (try simp only [Act.put, List.setIfInBounds_toArray, List.set_cons_zero, List.set_cons_succ])
            refine wpAnyH_take (i := 16) (oi := { dst := some 36, op := Op.move (Operand.tmp 6), type := 68, pos := "l3_sums.go:101", after := #[{ on := 15, ground := Ground.guard }], guard := some (15, true) }) (v := ?_) rfl (by kernel_rfl) (by kernel_rfl) (by kernel_rfl) (fun _ _ _ h => h) (Or.inl ⟨by rfl, ?_⟩) (by assumption) ?_
            rotate_left
            · (intro w hSw; (try dsimp only at hSw); go_simp <;> with_reducible rfl)
            (try simp only [Act.put, List.setIfInBounds_toArray, List.set_cons_zero, List.set_cons_succ])
            refine wpAnyH_take (i := 17) (oi := { dst := some 37, op := Op.indexAddr 68 (Operand.tmp 36) (Operand.const (Value.int IntKind.i64 0)), type := 0, pos := "l3_sums.go:101", after := #[{ on := 16, ground := Ground.data }, { on := 15, ground := Ground.guard }], guard := some (15, true) }) (v := ?_) rfl (by kernel_rfl) (by kernel_rfl) (by kernel_rfl) (fun _ _ _ h => h) (Or.inl ⟨by rfl, ?_⟩) (by assumption) ?_
            rotate_left
            · (intro w hSw; (try dsimp only at hSw); go_simp <;> with_reducible rfl)
            (try simp only [Act.put, List.setIfInBounds_toArray, List.set_cons_zero, List.set_cons_succ])
            refine wpAnyH_take (i := 18) (oi := { dst := some 38, op := Op.fieldAddr 97 (Operand.tmp 37) 1, type := 0, pos := "l3_sums.go:101", after := #[{ on := 17, ground := Ground.data }, { on := 15, ground := Ground.guard }], guard := some (15, true) }) (v := ?_) rfl (by kernel_rfl) (by kernel_rfl) (by kernel_rfl) (fun _ _ _ h => h) (Or.inl ⟨by rfl, ?_⟩) (by assumption) ?_
            rotate_left
            · (intro w hSw; (try dsimp only at hSw); go_simp <;> with_reducible rfl)
            (try simp only [Act.put, List.setIfInBounds_toArray, List.set_cons_zero, List.set_cons_succ])
            refine wpAnyH_take (i := 19) (oi := { dst := some 39, op := Op.load 88 (Operand.tmp 38), type := 88, pos := "l3_sums.go:101", after := #[{ on := 18, ground := Ground.data }, { on := 15, ground := Ground.guard }], guard := some (15, true) }) (v := ?_) rfl (by kernel_rfl) (by kernel_rfl) (by kernel_rfl) (fun _ _ _ h => h) (Or.inl ⟨by rfl, ?_⟩) (by assumption) ?_
            rotate_left
            · (intro w hSw; (try dsimp only at hSw); go_simp <;> with_reducible rfl)
            (try simp only [Act.put, List.setIfInBounds_toArray, List.set_cons_zero, List.set_cons_succ])
            refine wpAnyH_take (i := 21) (oi := { dst := some 41, op := Op.move (Operand.tmp 8), type := 68, pos := "l3_sums.go:101", after := #[{ on := 15, ground := Ground.guard }], guard := some (15, true) }) (v := ?_) rfl (by kernel_rfl) (by kernel_rfl) (by kernel_rfl) (fun _ _ _ h => h) (Or.inl ⟨by rfl, ?_⟩) (by assumption) ?_
            rotate_left
            · (intro w hSw; (try dsimp only at hSw); go_simp <;> with_reducible rfl)
            (try simp only [Act.put, List.setIfInBounds_toArray, List.set_cons_zero, List.set_cons_succ])
            refine wpAnyH_take (i := 22) (oi := { dst := some 42, op := Op.indexAddr 68 (Operand.tmp 41) (Operand.const (Value.int IntKind.i64 0)), type := 0, pos := "l3_sums.go:101", after := #[{ on := 21, ground := Ground.data }, { on := 15, ground := Ground.guard }], guard := some (15, true) }) (v := ?_) rfl (by kernel_rfl) (by kernel_rfl) (by kernel_rfl) (fun _ _ _ h => h) (Or.inl ⟨by rfl, ?_⟩) (by assumption) ?_
            rotate_left
            · (intro w hSw; (try dsimp only at hSw); go_simp <;> with_reducible rfl)
            (try simp only [Act.put, List.setIfInBounds_toArray, List.set_cons_zero, List.set_cons_succ])
            refine wpAnyH_take (i := 23) (oi := { dst := some 43, op := Op.fieldAddr 97 (Operand.tmp 42) 1, type := 0, pos := "l3_sums.go:101", after := #[{ on := 22, ground := Ground.data }, { on := 15, ground := Ground.guard }], guard := some (15, true) }) (v := ?_) rfl (by kernel_rfl) (by kernel_rfl) (by kernel_rfl) (fun _ _ _ h => h) (Or.inl ⟨by rfl, ?_⟩) (by assumption) ?_
            rotate_left
            · (intro w hSw; (try dsimp only at hSw); go_simp <;> with_reducible rfl)
            (try simp only [Act.put, List.setIfInBounds_toArray, List.set_cons_zero, List.set_cons_succ])
            refine wpAnyH_take (i := 24) (oi := { dst := some 44, op := Op.load 88 (Operand.tmp 43), type := 88, pos := "l3_sums.go:101", after := #[{ on := 23, ground := Ground.data }, { on := 15, ground := Ground.guard }], guard := some (15, true) }) (v := ?_) rfl (by kernel_rfl) (by kernel_rfl) (by kernel_rfl) (fun _ _ _ h => h) (Or.inl ⟨by rfl, ?_⟩) (by assumption) ?_
            rotate_left
            · (intro w hSw; (try dsimp only at hSw); go_simp <;> with_reducible rfl)
            (try simp only [Act.put, List.setIfInBounds_toArray, List.set_cons_zero, List.set_cons_succ])
            refine wpAnyH_ready (rs := [20]) (by kernel_rfl) (by simp) ?_
            refine AllReadyH.cons (o := { dst := some 40, op := Op.call { callee := Callee.value (Operand.func 65), args := #[Operand.tmp 39], argTypes := #[88] }, type := 3, pos := "l3_sums.go:101", after := #[{ on := 19, ground := Ground.data }, { on := 15, ground := Ground.chain }, { on := 15, ground := Ground.guard }], guard := some (15, true) }) rfl (fun K hK => ?_) AllReadyH.nil
            go_simp
            go_wp2_with (go_at_call 65; refine (HLV.out _ (Below.refl _ _).drew).mono ?_; rintro e w3 ⟨rfl, hB3⟩; have hB3' : Below w2.heap.size w2 w3 := (Below.refl _ _).drew.trans hB3; have y0 := keep1 hB3' c1'; have y1 := keep1 hB3' c2'; have y2 := keep1 hB3' d1'; have y3 := keep1 hB3' d2'; have HC3 := Lib.hid hB3'; clear hB3 hB3')
            refine hK.out _ _ ?_ (fun hHeld => ?_)
            · exact ⟨y0, y1, y2, y3⟩
            clear hK K
            (try simp only [Act.put, List.setIfInBounds_toArray, List.set_cons_zero, List.set_cons_succ])
            refine wpAnyH_ready (rs := [25]) (by kernel_rfl) (by simp) ?_
            refine AllReadyH.cons (o := { dst := some 45, op := Op.call { callee := Callee.value (Operand.func 65), args := #[Operand.tmp 44], argTypes := #[88] }, type := 3, pos := "l3_sums.go:101", after := #[{ on := 24, ground := Ground.data }, { on := 20, ground := Ground.chain }, { on := 15, ground := Ground.guard }], guard := some (15, true) }) rfl (fun K hK => ?_) AllReadyH.nil
            go_simp
            go_wp2_with (go_at_call 65; refine (HLV'.out _ HC3.out).mono ?_; rintro e w4 ⟨rfl, hB4⟩; have z0 := keep1 hB4 y0; have z1 := keep1 hB4 y1; have z2 := keep1 hB4 y2; have z3 := keep1 hB4 y3; have HC4 := Lib.hid (below_step HC3.out hB4); clear hB4)
            refine hK.out _ _ ?_ (fun hHeld => ?_)
            · exact ⟨z0, z1, z2, z3⟩
            clear hK K
            (try simp only [Act.put, List.setIfInBounds_toArray, List.set_cons_zero, List.set_cons_succ])
            refine wpAnyH_take (i := 26) (oi := { dst := some 46, op := Op.binOp BinOp.neq 3 (Operand.tmp 40) (Operand.tmp 45) 3, type := 4, pos := "l3_sums.go:101", after := #[{ on := 20, ground := Ground.data }, { on := 25, ground := Ground.data }, { on := 15, ground := Ground.guard }], guard := some (15, true) }) (v := ?_) rfl (by kernel_rfl) (by kernel_rfl) (by kernel_rfl) (fun _ _ _ h => h) (Or.inl ⟨by rfl, ?_⟩) (by assumption) ?_
            rotate_left
            · (intro w hSw; (try dsimp only at hSw); go_simp <;> with_reducible rfl)
            (try simp only [Act.put, List.setIfInBounds_toArray, List.set_cons_zero, List.set_cons_succ])
            refine wpAnyH_take (i := 27) (oi := { dst := some 47, op := Op.pick (Operand.tmp 35) (Operand.tmp 46) (Operand.const (Value.bool false)), type := 4, pos := "l3_sums.go:101", after := #[{ on := 15, ground := Ground.data }, { on := 26, ground := Ground.data }, { on := 6, ground := Ground.guard }], guard := some (6, false) }) (v := ?_) rfl (by kernel_rfl) (by kernel_rfl) (by kernel_rfl) (fun _ _ _ h => h) (Or.inl ⟨by rfl, ?_⟩) (by assumption) ?_
            rotate_left
            · (intro w hSw; (try dsimp only at hSw); go_simp <;> with_reducible rfl)
            (try simp only [Act.put, List.setIfInBounds_toArray, List.set_cons_zero, List.set_cons_succ])
            refine wpAnyH_take (i := 28) (oi := { dst := some 48, op := Op.pick (Operand.tmp 26) (Operand.const (Value.bool true)) (Operand.tmp 47), type := 4, pos := "l3_sums.go:101", after := #[{ on := 6, ground := Ground.data }, { on := 27, ground := Ground.data }], guard := none }) (v := ?_) rfl (by kernel_rfl) (by kernel_rfl) (by kernel_rfl) (fun _ _ _ h => h) (Or.inl ⟨by rfl, ?_⟩) (by assumption) ?_
            rotate_left
            · (intro w hSw; (try dsimp only at hSw); go_simp <;> with_reducible rfl)
            (try simp only [Act.put, List.setIfInBounds_toArray, List.set_cons_zero, List.set_cons_succ])
            refine wpAnyH_done (by kernel_rfl) ?_ _
            all_goals
              have HBC := Lib.hid (below_step HB2.out HC4.out)
              go_wp2_with fail
              refine (HSM.out _ HC4.out).mono ?_
              rintro e u2 ⟨hU2, gu, cu, rfl, hu1, hu2, hru⟩
              have HWR := Lib.hid (l3Write_any (canon ((p :: ps') ++ (q :: qs'))) _ rfl gu cu u2 HCL.out HOK.out hru)
              have HU2 := Lib.hid (below_step HBC.out hU2)
              clear hU2 hru
              go_wp2_with fail
              refine HWR.out.mono ?_
              rintro e u3 ⟨hU3, hres⟩
              have HU3 := Lib.hid (below_step HU2.out hU3)
              rcases hres with ⟨hno, a3, c3, rfl⟩ | ⟨rs, g3, c3, cur, hyes, rfl, hg3, hcur, hcs, hl3⟩
              · have HQ : Hid (addOf xs ys = none) := Lib.hid (by rw [HIN.out, if_pos HYA.out, hno])
                clear hno
                go_wp2_with fail
                go_ret2
                exact ⟨HU3.out, .inl ⟨HQ.out, _, _, rfl⟩⟩
              · have HQ : Hid (addOf xs ys = some rs) := Lib.hid (by rw [HIN.out, if_pos HYA.out, hyes])
                have HRES : Hid (u2.heap.size ≤ g3 ∧ u3.heap[g3]? = some (.cells cur 32 (0, 0)) ∧ rs.length * 2 ≤ cur.size ∧ TermL u3 g3 (txtTm rs)) := Lib.hid ⟨hg3, hcur, hcs, hl3⟩
                clear hyes hcur hcs hl3
                go_wp2_with fail
                go_ret2
                obtain ⟨h1, h2, h3, h4⟩ := HRES.out
                exact ⟨HU3.out, .inr ⟨rs, g3, c3, cur, HQ.out, rfl, Nat.le_trans HU2.out.size h1, h2, h3, h4⟩⟩
          · have HNA : Hid (addOf xs ys = none) := Lib.hid (by rw [HIN.out, HAL.out, if_neg (by simpa using hLL)])
            have l1 : ((L : Int) != (L' : Int)) = true := by simp; omega
            have l2 : ((L : Int) == (L' : Int)) = false := by simp; omega
            have l3 : (L != L') = true := by simpa using hLL
            have l4 : (L == L') = false := by simpa using hLL
            go_wp2_with fail
            refine wp_region_held_drew (S := (fun w' => w'.cell? ⟨g1, 1, none⟩ = some (.string lb) ∧ w'.cell? ⟨g1, 2, none⟩ = some (.slice sa sn sc) ∧ w'.cell? ⟨g2, 1, none⟩ = some (.string lb') ∧ w'.cell? ⟨g2, 2, none⟩ = some (.slice sa' sn' sc'))) (by kernel_rfl) (by exact ⟨c1', c2', d1', d2'⟩) (fun hHeld => ?_)
            refine wpAnyH_take (i := 0) (oi := { dst := some 20, op := Op.move (Operand.tmp 7), type := 4, pos := "l3_sums.go:101", after := #[], guard := none }) (v := ?_) rfl (by kernel_rfl) (by kernel_rfl) (by kernel_rfl) (fun _ _ _ h => h) (Or.inl ⟨by rfl, ?_⟩) (by assumption) ?_
            rotate_left
            · (intro w hSw; (try dsimp only at hSw); go_simp <;> with_reducible rfl)
            (try simp only [Act.put, List.setIfInBounds_toArray, List.set_cons_zero, List.set_cons_succ])
            refine wpAnyH_take (i := 1) (oi := { dst := some 21, op := Op.unOp UnOp.not 4 (Operand.tmp 20), type := 4, pos := "l3_sums.go:101", after := #[{ on := 0, ground := Ground.data }], guard := none }) (v := ?_) rfl (by kernel_rfl) (by kernel_rfl) (by kernel_rfl) (fun _ _ _ h => h) (Or.inl ⟨by rfl, ?_⟩) (by assumption) ?_
            rotate_left
            · (intro w hSw; (try dsimp only at hSw); go_simp <;> with_reducible rfl)
            (try simp only [Act.put, List.setIfInBounds_toArray, List.set_cons_zero, List.set_cons_succ])
            refine wpAnyH_take (i := 2) (oi := { dst := some 22, op := Op.move (Operand.tmp 21), type := 4, pos := "l3_sums.go:101", after := #[{ on := 1, ground := Ground.data }], guard := none }) (v := ?_) rfl (by kernel_rfl) (by kernel_rfl) (by kernel_rfl) (fun _ _ _ h => h) (Or.inl ⟨by rfl, ?_⟩) (by assumption) ?_
            rotate_left
            · (intro w hSw; (try dsimp only at hSw); go_simp <;> with_reducible rfl)
            (try simp only [Act.put, List.setIfInBounds_toArray, List.set_cons_zero, List.set_cons_succ])
            refine wpAnyH_take (i := 3) (oi := { dst := some 23, op := Op.move (Operand.tmp 9), type := 4, pos := "l3_sums.go:101", after := #[{ on := 2, ground := Ground.guard }], guard := some (2, false) }) (v := ?_) rfl (by kernel_rfl) (by kernel_rfl) (by kernel_rfl) (fun _ _ _ h => h) (Or.inl ⟨by rfl, ?_⟩) (by assumption) ?_
            rotate_left
            · (intro w hSw; (try dsimp only at hSw); go_simp <;> with_reducible rfl)
            (try simp only [Act.put, List.setIfInBounds_toArray, List.set_cons_zero, List.set_cons_succ])
            refine wpAnyH_take (i := 4) (oi := { dst := some 24, op := Op.unOp UnOp.not 4 (Operand.tmp 23), type := 4, pos := "l3_sums.go:101", after := #[{ on := 3, ground := Ground.data }, { on := 2, ground := Ground.guard }], guard := some (2, false) }) (v := ?_) rfl (by kernel_rfl) (by kernel_rfl) (by kernel_rfl) (fun _ _ _ h => h) (Or.inl ⟨by rfl, ?_⟩) (by assumption) ?_
            rotate_left
            · (intro w hSw; (try dsimp only at hSw); go_simp <;> with_reducible rfl)
            (try simp only [Act.put, List.setIfInBounds_toArray, List.set_cons_zero, List.set_cons_succ])
            refine wpAnyH_take (i := 5) (oi := { dst := some 25, op := Op.pick (Operand.tmp 22) (Operand.const (Value.bool true)) (Operand.tmp 24), type := 4, pos := "l3_sums.go:101", after := #[{ on := 2, ground := Ground.data }, { on := 4, ground := Ground.data }], guard := none }) (v := ?_) rfl (by kernel_rfl) (by kernel_rfl) (by kernel_rfl) (fun _ _ _ h => h) (Or.inl ⟨by rfl, ?_⟩) (by assumption) ?_
            rotate_left
            · (intro w hSw; (try dsimp only at hSw); go_simp <;> with_reducible rfl)
            (try simp only [Act.put, List.setIfInBounds_toArray, List.set_cons_zero, List.set_cons_succ])
            refine wpAnyH_take (i := 6) (oi := { dst := some 26, op := Op.move (Operand.tmp 25), type := 4, pos := "l3_sums.go:101", after := #[{ on := 5, ground := Ground.data }, { on := 2, ground := Ground.chain }], guard := none }) (v := ?_) rfl (by kernel_rfl) (by kernel_rfl) (by kernel_rfl) (fun _ _ _ h => h) (Or.inl ⟨by rfl, ?_⟩) (by assumption) ?_
            rotate_left
            · (intro w hSw; (try dsimp only at hSw); go_simp <;> with_reducible rfl)
            (try simp only [Act.put, List.setIfInBounds_toArray, List.set_cons_zero, List.set_cons_succ])
            refine wpAnyH_take (i := 7) (oi := { dst := some 27, op := Op.move (Operand.tmp 6), type := 68, pos := "l3_sums.go:101", after := #[{ on := 6, ground := Ground.guard }], guard := some (6, false) }) (v := ?_) rfl (by kernel_rfl) (by kernel_rfl) (by kernel_rfl) (fun _ _ _ h => h) (Or.inl ⟨by rfl, ?_⟩) (by assumption) ?_
            rotate_left
            · (intro w hSw; (try dsimp only at hSw); go_simp <;> with_reducible rfl)
            (try simp only [Act.put, List.setIfInBounds_toArray, List.set_cons_zero, List.set_cons_succ])
            refine wpAnyH_take (i := 8) (oi := { dst := some 28, op := Op.call { callee := Callee.builtin Builtin.len, args := #[Operand.tmp 27], argTypes := #[68] }, type := 3, pos := "l3_sums.go:101", after := #[{ on := 7, ground := Ground.data }, { on := 6, ground := Ground.guard }], guard := some (6, false) }) (v := ?_) rfl (by kernel_rfl) (by kernel_rfl) (by kernel_rfl) (fun _ _ _ h => h) (Or.inl ⟨by rfl, ?_⟩) (by assumption) ?_
            rotate_left
            · (intro w hSw; (try dsimp only at hSw); go_simp <;> with_reducible rfl)
            (try simp only [Act.put, List.setIfInBounds_toArray, List.set_cons_zero, List.set_cons_succ])
            refine wpAnyH_take (i := 9) (oi := { dst := some 29, op := Op.binOp BinOp.gtr 3 (Operand.tmp 28) (Operand.const (Value.int IntKind.i64 0)) 3, type := 4, pos := "l3_sums.go:101", after := #[{ on := 8, ground := Ground.data }, { on := 6, ground := Ground.guard }], guard := some (6, false) }) (v := ?_) rfl (by kernel_rfl) (by kernel_rfl) (by kernel_rfl) (fun _ _ _ h => h) (Or.inl ⟨by rfl, ?_⟩) (by assumption) ?_
            rotate_left
            · (intro w hSw; (try dsimp only at hSw); go_simp <;> with_reducible rfl)
            (try simp only [Act.put, List.setIfInBounds_toArray, List.set_cons_zero, List.set_cons_succ])
            refine wpAnyH_take (i := 10) (oi := { dst := some 30, op := Op.move (Operand.tmp 29), type := 4, pos := "l3_sums.go:101", after := #[{ on := 9, ground := Ground.data }, { on := 6, ground := Ground.chain }, { on := 6, ground := Ground.guard }], guard := some (6, false) }) (v := ?_) rfl (by kernel_rfl) (by kernel_rfl) (by kernel_rfl) (fun _ _ _ h => h) (Or.inl ⟨by rfl, ?_⟩) (by assumption) ?_
            rotate_left
            · (intro w hSw; (try dsimp only at hSw); go_simp <;> with_reducible rfl)
            (try simp only [Act.put, List.setIfInBounds_toArray, List.set_cons_zero, List.set_cons_succ])
            refine wpAnyH_take (i := 11) (oi := { dst := some 31, op := Op.move (Operand.tmp 8), type := 68, pos := "l3_sums.go:101", after := #[{ on := 10, ground := Ground.guard }], guard := some (10, true) }) (v := ?_) rfl (by kernel_rfl) (by kernel_rfl) (by kernel_rfl) (fun _ _ _ h => h) (Or.inl ⟨by rfl, ?_⟩) (by assumption) ?_
            rotate_left
            · (intro w hSw; (try dsimp only at hSw); go_simp <;> with_reducible rfl)
            (try simp only [Act.put, List.setIfInBounds_toArray, List.set_cons_zero, List.set_cons_succ])
            refine wpAnyH_take (i := 12) (oi := { dst := some 32, op := Op.call { callee := Callee.builtin Builtin.len, args := #[Operand.tmp 31], argTypes := #[68] }, type := 3, pos := "l3_sums.go:101", after := #[{ on := 11, ground := Ground.data }, { on := 10, ground := Ground.guard }], guard := some (10, true) }) (v := ?_) rfl (by kernel_rfl) (by kernel_rfl) (by kernel_rfl) (fun _ _ _ h => h) (Or.inl ⟨by rfl, ?_⟩) (by assumption) ?_
            rotate_left
            · (intro w hSw; (try dsimp only at hSw); go_simp <;> with_reducible rfl)
            (try simp only [Act.put, List.setIfInBounds_toArray, List.set_cons_zero, List.set_cons_succ])
            refine wpAnyH_take (i := 13) (oi := { dst := some 33, op := Op.binOp BinOp.gtr 3 (Operand.tmp 32) (Operand.const (Value.int IntKind.i64 0)) 3, type := 4, pos := "l3_sums.go:101", after := #[{ on := 12, ground := Ground.data }, { on := 10, ground := Ground.guard }], guard := some (10, true) }) (v := ?_) rfl (by kernel_rfl) (by kernel_rfl) (by kernel_rfl) (fun _ _ _ h => h) (Or.inl ⟨by rfl, ?_⟩) (by assumption) ?_
            rotate_left
            · (intro w hSw; (try dsimp only at hSw); go_simp <;> with_reducible rfl)
            (try simp only [Act.put, List.setIfInBounds_toArray, List.set_cons_zero, List.set_cons_succ])
            refine wpAnyH_take (i := 14) (oi := { dst := some 34, op := Op.pick (Operand.tmp 30) (Operand.tmp 33) (Operand.const (Value.bool false)), type := 4, pos := "l3_sums.go:101", after := #[{ on := 10, ground := Ground.data }, { on := 13, ground := Ground.data }, { on := 6, ground := Ground.guard }], guard := some (6, false) }) (v := ?_) rfl (by kernel_rfl) (by kernel_rfl) (by kernel_rfl) (fun _ _ _ h => h) (Or.inl ⟨by rfl, ?_⟩) (by assumption) ?_
            rotate_left
            · (intro w hSw; (try dsimp only at hSw); go_simp <;> with_reducible rfl)
            (try simp only [Act.put, List.setIfInBounds_toArray, List.set_cons_zero, List.set_cons_succ])
            refine wpAnyH_take (i := 15) (oi := { dst := some 35, op := Op.move (Operand.tmp 34), type := 4, pos := "l3_sums.go:101", after := #[{ on := 14, ground := Ground.data }, { on := 10, ground := Ground.chain }, { on := 6, ground := Ground.guard }], guard := some (6, false) }) (v := ?_) rfl (by kernel_rfl) (by kernel_rfl) (by kernel_rfl) (fun _ _ _ h => h) (Or.inl ⟨by rfl, ?_⟩) (by assumption) ?_
            rotate_left
            · (intro w hSw; (try dsimp only at hSw); go_simp <;> with_reducible rfl)
            (try simp only [Act.put, List.setIfInBounds_toArray, List.set_cons_zero, List.set_cons_succ])
            refine wpAnyH_take (i := 16) (oi := { dst := some 36, op := Op.move (Operand.tmp 6), type := 68, pos := "l3_sums.go:101", after := #[{ on := 15, ground := Ground.guard }], guard := some (15, true) }) (v := ?_) rfl (by kernel_rfl) (by kernel_rfl) (by kernel_rfl) (fun _ _ _ h => h) (Or.inl ⟨by rfl, ?_⟩) (by assumption) ?_
            rotate_left
            · (intro w hSw; (try dsimp only at hSw); go_simp <;> with_reducible rfl)
            (try simp only [Act.put, List.setIfInBounds_toArray, List.set_cons_zero, List.set_cons_succ])
            refine wpAnyH_take (i := 17) (oi := { dst := some 37, op := Op.indexAddr 68 (Operand.tmp 36) (Operand.const (Value.int IntKind.i64 0)), type := 0, pos := "l3_sums.go:101", after := #[{ on := 16, ground := Ground.data }, { on := 15, ground := Ground.guard }], guard := some (15, true) }) (v := ?_) rfl (by kernel_rfl) (by kernel_rfl) (by kernel_rfl) (fun _ _ _ h => h) (Or.inl ⟨by rfl, ?_⟩) (by assumption) ?_
            rotate_left
            · (intro w hSw; (try dsimp only at hSw); go_simp <;> with_reducible rfl)
            (try simp only [Act.put, List.setIfInBounds_toArray, List.set_cons_zero, List.set_cons_succ])
            refine wpAnyH_take (i := 18) (oi := { dst := some 38, op := Op.fieldAddr 97 (Operand.tmp 37) 1, type := 0, pos := "l3_sums.go:101", after := #[{ on := 17, ground := Ground.data }, { on := 15, ground := Ground.guard }], guard := some (15, true) }) (v := ?_) rfl (by kernel_rfl) (by kernel_rfl) (by kernel_rfl) (fun _ _ _ h => h) (Or.inl ⟨by rfl, ?_⟩) (by assumption) ?_
            rotate_left
            · (intro w hSw; (try dsimp only at hSw); go_simp <;> with_reducible rfl)
            (try simp only [Act.put, List.setIfInBounds_toArray, List.set_cons_zero, List.set_cons_succ])
            refine wpAnyH_take (i := 19) (oi := { dst := some 39, op := Op.load 88 (Operand.tmp 38), type := 88, pos := "l3_sums.go:101", after := #[{ on := 18, ground := Ground.data }, { on := 15, ground := Ground.guard }], guard := some (15, true) }) (v := ?_) rfl (by kernel_rfl) (by kernel_rfl) (by kernel_rfl) (fun _ _ _ h => h) (Or.inl ⟨by rfl, ?_⟩) (by assumption) ?_
            rotate_left
            · (intro w hSw; (try dsimp only at hSw); go_simp <;> with_reducible rfl)
            (try simp only [Act.put, List.setIfInBounds_toArray, List.set_cons_zero, List.set_cons_succ])
            refine wpAnyH_take (i := 21) (oi := { dst := some 41, op := Op.move (Operand.tmp 8), type := 68, pos := "l3_sums.go:101", after := #[{ on := 15, ground := Ground.guard }], guard := some (15, true) }) (v := ?_) rfl (by kernel_rfl) (by kernel_rfl) (by kernel_rfl) (fun _ _ _ h => h) (Or.inl ⟨by rfl, ?_⟩) (by assumption) ?_
            rotate_left
            · (intro w hSw; (try dsimp only at hSw); go_simp <;> with_reducible rfl)
            (try simp only [Act.put, List.setIfInBounds_toArray, List.set_cons_zero, List.set_cons_succ])
            refine wpAnyH_take (i := 22) (oi := { dst := some 42, op := Op.indexAddr 68 (Operand.tmp 41) (Operand.const (Value.int IntKind.i64 0)), type := 0, pos := "l3_sums.go:101", after := #[{ on := 21, ground := Ground.data }, { on := 15, ground := Ground.guard }], guard := some (15, true) }) (v := ?_) rfl (by kernel_rfl) (by kernel_rfl) (by kernel_rfl) (fun _ _ _ h => h) (Or.inl ⟨by rfl, ?_⟩) (by assumption) ?_
            rotate_left
            · (intro w hSw; (try dsimp only at hSw); go_simp <;> with_reducible rfl)
            (try simp only [Act.put, List.setIfInBounds_toArray, List.set_cons_zero, List.set_cons_succ])
            refine wpAnyH_take (i := 23) (oi := { dst := some 43, op := Op.fieldAddr 97 (Operand.tmp 42) 1, type := 0, pos := "l3_sums.go:101", after := #[{ on := 22, ground := Ground.data }, { on := 15, ground := Ground.guard }], guard := some (15, true) }) (v := ?_) rfl (by kernel_rfl) (by kernel_rfl) (by kernel_rfl) (fun _ _ _ h => h) (Or.inl ⟨by rfl, ?_⟩) (by assumption) ?_
            rotate_left
            · (intro w hSw; (try dsimp only at hSw); go_simp <;> with_reducible rfl)
            (try simp only [Act.put, List.setIfInBounds_toArray, List.set_cons_zero, List.set_cons_succ])
            refine wpAnyH_take (i := 24) (oi := { dst := some 44, op := Op.load 88 (Operand.tmp 43), type := 88, pos := "l3_sums.go:101", after := #[{ on := 23, ground := Ground.data }, { on := 15, ground := Ground.guard }], guard := some (15, true) }) (v := ?_) rfl (by kernel_rfl) (by kernel_rfl) (by kernel_rfl) (fun _ _ _ h => h) (Or.inl ⟨by rfl, ?_⟩) (by assumption) ?_
            rotate_left
            · (intro w hSw; (try dsimp only at hSw); go_simp <;> with_reducible rfl)
            (try simp only [Act.put, List.setIfInBounds_toArray, List.set_cons_zero, List.set_cons_succ])
            refine wpAnyH_ready (rs := [20]) (by kernel_rfl) (by simp) ?_
            refine AllReadyH.cons (o := { dst := some 40, op := Op.call { callee := Callee.value (Operand.func 65), args := #[Operand.tmp 39], argTypes := #[88] }, type := 3, pos := "l3_sums.go:101", after := #[{ on := 19, ground := Ground.data }, { on := 15, ground := Ground.chain }, { on := 15, ground := Ground.guard }], guard := some (15, true) }) rfl (fun K hK => ?_) AllReadyH.nil
            go_simp
            go_wp2_with (go_at_call 65; refine (HLV.out _ (Below.refl _ _).drew).mono ?_; rintro e w3 ⟨rfl, hB3⟩; have hB3' : Below w2.heap.size w2 w3 := (Below.refl _ _).drew.trans hB3; have y0 := keep1 hB3' c1'; have y1 := keep1 hB3' c2'; have y2 := keep1 hB3' d1'; have y3 := keep1 hB3' d2'; have HC3 := Lib.hid hB3'; clear hB3 hB3')
            refine hK.out _ _ ?_ (fun hHeld => ?_)
            · exact ⟨y0, y1, y2, y3⟩
            clear hK K
            (try simp only [Act.put, List.setIfInBounds_toArray, List.set_cons_zero, List.set_cons_succ])
            refine wpAnyH_ready (rs := [25]) (by kernel_rfl) (by simp) ?_
            refine AllReadyH.cons (o := { dst := some 45, op := Op.call { callee := Callee.value (Operand.func 65), args := #[Operand.tmp 44], argTypes := #[88] }, type := 3, pos := "l3_sums.go:101", after := #[{ on := 24, ground := Ground.data }, { on := 20, ground := Ground.chain }, { on := 15, ground := Ground.guard }], guard := some (15, true) }) rfl (fun K hK => ?_) AllReadyH.nil
            go_simp
            go_wp2_with (go_at_call 65; refine (HLV'.out _ HC3.out).mono ?_; rintro e w4 ⟨rfl, hB4⟩; have z0 := keep1 hB4 y0; have z1 := keep1 hB4 y1; have z2 := keep1 hB4 y2; have z3 := keep1 hB4 y3; have HC4 := Lib.hid (below_step HC3.out hB4); clear hB4)
            refine hK.out _ _ ?_ (fun hHeld => ?_)
            · exact ⟨z0, z1, z2, z3⟩
            clear hK K
            (try simp only [Act.put, List.setIfInBounds_toArray, List.set_cons_zero, List.set_cons_succ])
            refine wpAnyH_take (i := 26) (oi := { dst := some 46, op := Op.binOp BinOp.neq 3 (Operand.tmp 40) (Operand.tmp 45) 3, type := 4, pos := "l3_sums.go:101", after := #[{ on := 20, ground := Ground.data }, { on := 25, ground := Ground.data }, { on := 15, ground := Ground.guard }], guard := some (15, true) }) (v := ?_) rfl (by kernel_rfl) (by kernel_rfl) (by kernel_rfl) (fun _ _ _ h => h) (Or.inl ⟨by rfl, ?_⟩) (by assumption) ?_
            rotate_left
            · (intro w hSw; (try dsimp only at hSw); go_simp <;> with_reducible rfl)
            (try simp only [Act.put, List.setIfInBounds_toArray, List.set_cons_zero, List.set_cons_succ])
            refine wpAnyH_take (i := 27) (oi := { dst := some 47, op := Op.pick (Operand.tmp 35) (Operand.tmp 46) (Operand.const (Value.bool false)), type := 4, pos := "l3_sums.go:101", after := #[{ on := 15, ground := Ground.data }, { on := 26, ground := Ground.data }, { on := 6, ground := Ground.guard }], guard := some (6, false) }) (v := ?_) rfl (by kernel_rfl) (by kernel_rfl) (by kernel_rfl) (fun _ _ _ h => h) (Or.inl ⟨by rfl, ?_⟩) (by assumption) ?_
            rotate_left
            · (intro w hSw; (try dsimp only at hSw); go_simp <;> with_reducible rfl)
            (try simp only [Act.put, List.setIfInBounds_toArray, List.set_cons_zero, List.set_cons_succ])
            refine wpAnyH_take (i := 28) (oi := { dst := some 48, op := Op.pick (Operand.tmp 26) (Operand.const (Value.bool true)) (Operand.tmp 47), type := 4, pos := "l3_sums.go:101", after := #[{ on := 6, ground := Ground.data }, { on := 27, ground := Ground.data }], guard := none }) (v := ?_) rfl (by kernel_rfl) (by kernel_rfl) (by kernel_rfl) (fun _ _ _ h => h) (Or.inl ⟨by rfl, ?_⟩) (by assumption) ?_
            rotate_left
            · (intro w hSw; (try dsimp only at hSw); go_simp <;> with_reducible rfl)
            (try simp only [Act.put, List.setIfInBounds_toArray, List.set_cons_zero, List.set_cons_succ])
            refine wpAnyH_done (by kernel_rfl) ?_ _
            all_goals
              have HBC := Lib.hid (below_step HB2.out HC4.out)
              go_wp2_with fail
              go_ret2
              exact ⟨HBC.out.alloc HBC.out.size _, .inl ⟨HNA.out, _, _, rfl⟩⟩
        · have hq0 : qs = [] := by
            cases qs with
            | nil => rfl
            | cons q qs' => simp at hk2; omega
          have HYA : Hid (alike ps qs = true) := Lib.hid (by rw [hq0]; cases ps <;> rfl)
          have e1 : decide ((0 : Int) < (m1 : Int)) = true := decide_eq_true (by omega)
          have e2 : decide ((0 : Int) < (m2 : Int)) = false := decide_eq_false (by omega)
          have i1 : (0 : Int) < (m1 : Int) := by omega
          have i2 : ¬ (0 : Int) < (m2 : Int) := by omega
          clear hyes hyes' hrd hrd' htr htr' hk1 hk2 h60 h60' hc1 hc2 hm1 hm2 hq0
          go_wp2_with fail
          go_quiet (fail)
          go_wp2_with fail
          refine (HSM.out _ (below_drewN (Below.refl _ _) nq)).mono ?_
          rintro e u2 ⟨hU2, gu, cu, rfl, hu1, hu2, hru⟩
          have HWR := Lib.hid (l3Write_any (canon (ps ++ qs)) _ rfl gu cu u2 HCL.out HOK.out hru)
          have HU2 := Lib.hid (below_step (below_drewN HB2.out nq) hU2)
          clear hU2 hru
          go_wp2_with fail
          refine HWR.out.mono ?_
          rintro e u3 ⟨hU3, hres⟩
          have HU3 := Lib.hid (below_step HU2.out hU3)
          rcases hres with ⟨hno, a3, c3, rfl⟩ | ⟨rs, g3, c3, cur, hyes, rfl, hg3, hcur, hcs, hl3⟩
          · have HQ : Hid (addOf xs ys = none) := Lib.hid (by rw [HIN.out, if_pos HYA.out, hno])
            clear hno
            go_wp2_with fail
            go_ret2
            exact ⟨HU3.out, .inl ⟨HQ.out, _, _, rfl⟩⟩
          · have HQ : Hid (addOf xs ys = some rs) := Lib.hid (by rw [HIN.out, if_pos HYA.out, hyes])
            have HRES : Hid (u2.heap.size ≤ g3 ∧ u3.heap[g3]? = some (.cells cur 32 (0, 0)) ∧ rs.length * 2 ≤ cur.size ∧ TermL u3 g3 (txtTm rs)) := Lib.hid ⟨hg3, hcur, hcs, hl3⟩
            clear hyes hcur hcs hl3
            go_wp2_with fail
            go_ret2
            obtain ⟨h1, h2, h3, h4⟩ := HRES.out
            exact ⟨HU3.out, .inr ⟨rs, g3, c3, cur, HQ.out, rfl, Nat.le_trans HU2.out.size h1, h2, h3, h4⟩⟩
      · have hp0 : ps = [] := by
          cases ps with
          | nil => rfl
          | cons q qs' => simp at hk1; omega
        have HYA : Hid (alike ps qs = true) := Lib.hid (by rw [hp0]; rfl)
        have e1 : decide ((0 : Int) < (m1 : Int)) = false := decide_eq_false (by omega)
        have i1 : ¬ (0 : Int) < (m1 : Int) := by omega
        clear hyes hyes' hrd hrd' htr htr' hk1 hk2 h60 h60' hc1 hc2 hm1 hm2 hp0
        go_wp2_with fail
        go_quiet (fail)
        go_wp2_with fail
        refine (HSM.out _ (below_drewN (Below.refl _ _) nq)).mono ?_
        rintro e u2 ⟨hU2, gu, cu, rfl, hu1, hu2, hru⟩
        have HWR := Lib.hid (l3Write_any (canon (ps ++ qs)) _ rfl gu cu u2 HCL.out HOK.out hru)
        have HU2 := Lib.hid (below_step (below_drewN HB2.out nq) hU2)
        clear hU2 hru
        go_wp2_with fail
        refine HWR.out.mono ?_
        rintro e u3 ⟨hU3, hres⟩
        have HU3 := Lib.hid (below_step HU2.out hU3)
        rcases hres with ⟨hno, a3, c3, rfl⟩ | ⟨rs, g3, c3, cur, hyes, rfl, hg3, hcur, hcs, hl3⟩
        · have HQ : Hid (addOf xs ys = none) := Lib.hid (by rw [HIN.out, if_pos HYA.out, hno])
          clear hno
          go_wp2_with fail
          go_ret2
          exact ⟨HU3.out, .inl ⟨HQ.out, _, _, rfl⟩⟩
        · have HQ : Hid (addOf xs ys = some rs) := Lib.hid (by rw [HIN.out, if_pos HYA.out, hyes])
          have HRES : Hid (u2.heap.size ≤ g3 ∧ u3.heap[g3]? = some (.cells cur 32 (0, 0)) ∧ rs.length * 2 ≤ cur.size ∧ TermL u3 g3 (txtTm rs)) := Lib.hid ⟨hg3, hcur, hcs, hl3⟩
          clear hyes hcur hcs hl3
          go_wp2_with fail
          go_ret2
          obtain ⟨h1, h2, h3, h4⟩ := HRES.out
          exact ⟨HU3.out, .inr ⟨rs, g3, c3, cur, HQ.out, rfl, Nat.le_trans HU2.out.size h1, h2, h3, h4⟩⟩
end Go.Proofs.Ytipodlckehodnaa
