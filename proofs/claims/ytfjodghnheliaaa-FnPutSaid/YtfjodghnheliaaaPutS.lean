/- The model puts a tree in the place of a pattern. -/
import Derived.Test.YtfjodghnheliaaaMatS
import Derived.Test.YtfjodghnheliaaaJoinS
import Derived.Test.YtfjodghnheliaaaPutI
namespace Go.Proofs.Ytfjodghnheliaaa
open Go.RowKit

theorem putV_none1 {pat s y : ByteArray} {v : Int} (h : patOf pat = none) : putV pat s v y = .tuple #[.string ⟨#[]⟩, .bool false] := by rw [putV, h]
theorem putV_none2 {pat s y : ByteArray} {v : Int} (h : parse s.data.toList = none) : putV pat s v y = .tuple #[.string ⟨#[]⟩, .bool false] := by
  rw [putV, h]; cases patOf pat <;> rfl
theorem putV_none3 {pat s y : ByteArray} {v : Int} (h : parse y.data.toList = none) : putV pat s v y = .tuple #[.string ⟨#[]⟩, .bool false] := by
  rw [putV, h]
  cases patOf pat with
  | none => rfl
  | some p => cases parse s.data.toList <;> rfl

theorem trS.rl {w : World} {P : Nat → Prop} {g : Nat} {ts : List T} (h : Rd trS w P (some ⟨g, 0, none⟩) ts) : RepSL w P ts g 0 :=
  RepSL.of_get fun j hj => by
    obtain ⟨g', cs, e, _, hc, lb, sa, sn, sc, rfl, _, hr⟩ := h j hj
    simp only [Option.some.injEq, Addr.mk.injEq] at e
    obtain ⟨rfl, _⟩ := e
    have h0 := hc 0 (show 0 < 2 by decide)
    have h1 := hc 1 (show 1 < 2 by decide)
    exact ⟨_, _, by rw [Nat.zero_add]; simpa [trS] using h0, by rw [Nat.zero_add]; simpa [trS] using h1, hr⟩

set_option maxRecDepth 100000 in
set_option maxHeartbeats 4000000 in
theorem sPut_any (pat s y : ByteArray) (v : Int) (w : World) (hp : pat.size ≤ 1048576) (hs : s.size ≤ 1048576) (hy : y.size ≤ 1048576) (hv : v ≤ 9223372036854775807) :
    Calls Try.prog 23 #[.string pat, .string s, .int .i64 v, .string y] w (Ans (putV pat s v y) w) := by
  have HP := Lib.hid (fun (W : World) => l4Pattern_any pat W hp)
  have HS := Lib.hid (fun (W : World) => l1Parse_any s W (by omega))
  have HY := Lib.hid (fun (W : World) => l1Parse_any y W (by omega))
  go_enter Try.func23, Try.ntmps23
  go_wp2_with fail
  refine (HP.out _).mono ?_
  rintro e w1 ⟨hB1, pb, pa, pn, pc, b1, rfl, hres1⟩
  have HB1 := Lib.hid hB1
  have HR1 := Lib.hid hres1
  clear hB1 hres1
  go_wp2_with fail
  refine (HS.out _).mono ?_
  rintro e w2 ⟨hB2, tb, ta, tn, tc, b2, rfl, hres2⟩
  have HX1 := Lib.hid ((Below.refl w1.heap.size w1).alloc (Nat.le_refl _) (.cells #[.string pb, .slice pa pn pc] 70 (0, 0)))
  have HB12 := Lib.hid (below_step HX1.out hB2)
  have HZ1 := Lib.hid ((hB2.block w1.heap.size (by simp)).trans (heap_alloc_new w1 (.cells #[.string pb, .slice pa pn pc] 70 (0, 0))))
  have HR2 := Lib.hid hres2
  clear hB2 hres2
  go_wp2_with fail
  refine (HY.out _).mono ?_
  rintro e w3 ⟨hB3, yb, ya, yn, yc, b3, rfl, hres3⟩
  have HX2 := Lib.hid ((Below.refl w2.heap.size w2).alloc (Nat.le_refl _) (.cells #[.string tb, .slice ta tn tc] 70 (0, 0)))
  have HB23 := Lib.hid (below_step HX2.out hB3)
  have HZ2 := Lib.hid ((hB3.block w2.heap.size (by simp)).trans (heap_alloc_new w2 (.cells #[.string tb, .slice ta tn tc] 70 (0, 0))))
  have HZ1' := Lib.hid ((HB23.out.block w1.heap.size (lt_of_block HZ1.out)).trans HZ1.out)
  have HX3 := Lib.hid ((Below.refl w3.heap.size w3).alloc (Nat.le_refl _) (.cells #[.string yb, .slice ya yn yc] 70 (0, 0)))
  have HBW := Lib.hid (below_step (below_step (below_step HB1.out HB12.out) HB23.out) HX3.out)
  have HR3 := Lib.hid hres3
  obtain ⟨p0, p1, _, _⟩ := two_cells HZ1'.out
  obtain ⟨t0, t1, _, _⟩ := two_cells HZ2.out
  obtain ⟨y0, y1, _, _⟩ := two_cells (heap_alloc_new w3 (.cells #[.string yb, .slice ya yn yc] 70 (0, 0)))
  have z0 := keep1 HX3.out p0
  have z1 := keep1 HX3.out p1
  have z2 := keep1 HX3.out t0
  have z3 := keep1 HX3.out t1
  clear p0 p1 t0 t1
  clear hB3 hres3
  rcases HR1.out with ⟨hno, rfl⟩ | ⟨p, hyp, rfl, hrp⟩
  · have HN := Lib.hid (putV_none1 (s := s) (v := v) (y := y) hno)
    clear hno
    go_wp2_with fail
    go_quiet (fail)
    all_goals
      go_wp2_with fail
      go_ret2
      exact ⟨by rw [HN.out]; rfl, below_drewN HBW.out nq⟩
  · rcases HR2.out with ⟨hno, rfl⟩ | ⟨t, hyt, rfl, hrt⟩
    · have HN := Lib.hid (putV_none2 (pat := pat) (v := v) (y := y) hno)
      clear hno
      go_wp2_with fail
      go_quiet (fail)
      all_goals
        go_wp2_with fail
        go_ret2
        exact ⟨by rw [HN.out]; rfl, below_drewN HBW.out nq⟩
    · rcases HR3.out with ⟨hno, rfl⟩ | ⟨b, hyb, rfl, hrb⟩
      · have HN := Lib.hid (putV_none3 (pat := pat) (s := s) (v := v) hno)
        clear hno
        go_wp2_with fail
        go_quiet (fail)
        all_goals
          go_wp2_with fail
          go_ret2
          exact ⟨by rw [HN.out]; rfl, below_drewN HBW.out nq⟩
      · obtain ⟨hpw, _, hpl, hpn⟩ := parse_some (patOf_some hyp).1
        obtain ⟨htw, _, htl, htn⟩ := parse_some hyt
        obtain ⟨hbw, _, hbl, hbn⟩ := parse_some hyb
        have HV := Lib.hid (putV_some (v := v) hyp hyt hyb)
        obtain ⟨W0, hW0⟩ : ∃ W0, W0 = w3.alloc (.cells #[.string yb, .slice ya yn yc] 70 (0, 0)) := ⟨_, rfl⟩
        rw [← hW0] at z0 z1 z2 z3 y0 y1 HBW HX3
        have hsW : W0.heap.size = w3.heap.size + 1 := by rw [hW0]; simp
        have z4 := y0
        have z5 := y1
        have hw12 : w1.heap.size < w2.heap.size := lt_of_block HZ1.out
        have hw23 : w2.heap.size < w3.heap.size := lt_of_block HZ2.out
        have HRP := Lib.hid ((((hrp.below hpw HB12.out).below hpw HB23.out).below hpw HX3.out).keep (P' := fun b => b < W0.heap.size) (fun _ _ _ h => h) (fun _ _ h => h) hpw)
        have HRT := Lib.hid (((hrt.below htw HB23.out).below htw HX3.out).keep (P' := fun b => b < W0.heap.size) (fun _ _ _ h => h) (fun _ _ h => h) htw)
        have HRB := Lib.hid ((hrb.below hbw HX3.out).keep (P' := fun b => b < W0.heap.size) (fun _ _ _ h => h) (fun _ _ h => h) hbw)
        obtain ⟨L, hL⟩ : ∃ L, L = b.leaves := ⟨_, rfl⟩
        obtain ⟨M, hM⟩ : ∃ M, M = p.leaves := ⟨_, rfl⟩
        obtain ⟨N, hN⟩ : ∃ N, N = t.nodes := ⟨_, rfl⟩
        have HLB := Lib.hid (fun (W : World) (hb : Below W0.heap.size W0 W) => l1Leaves_any _ b _ _ W _ (Nat.le_refl _) hbw (by omega) (HRB.out.below hbw hb))
        have HLP := Lib.hid (fun (W : World) (hb : Below W0.heap.size W0 W) => l1Leaves_any _ p _ _ W _ (Nat.le_refl _) hpw (by omega) (HRP.out.below hpw hb))
        have HNT := Lib.hid (fun (W : World) (hb : Below W0.heap.size W0 W) => l1Nodes_any _ t _ _ W _ (Nat.le_refl _) htw (by omega) (HRT.out.below htw hb))
        rw [← hL] at HLB
        rw [← hM] at HLP
        rw [← hN] at HNT
        rw [← hL, ← hM, ← hN] at HV
        have HL := Lib.hid hL
        have HM := Lib.hid hM
        have HNN := Lib.hid hN
        have HW0 := Lib.hid hW0
        have hN16 : N ≤ 16 := by omega
        have l1 : w1.heap.size < W0.heap.size := by omega
        have l2 : w2.heap.size < W0.heap.size := by omega
        have l3 : w3.heap.size < W0.heap.size := by omega
        clear hyp hyt hyb hrp hrt hrb hL hM hN hW0 y0 y1 hw12 hw23
        go_wp2_with fail
        rw [← HW0.out]
        by_cases hLM : L = M
        · have hLM1 : ((L : Int) != (M : Int)) = false := by simp; omega
          have hLM2 : ((L : Int) == (M : Int)) = true := by simp; omega
          have hLM3 : (L != M) = false := by simpa using hLM
          have hLM4 : (L == M) = true := by simpa using hLM
          have hwr : IntKind.i64.wrap ((N : Int) - 1) = (N : Int) - 1 := IntWalk.i64_in _ (by omega)
          by_cases hin : 0 ≤ v ∧ v ≤ (N : Int) - 1
          · have HIN : Hid (∀ w, Calls Try.prog 59 #[.int .i64 v, .int .i64 0, .int .i64 ((N : Int) - 1)] w fun e w' => e = .returned (.bool true) ∧ w = w') := Lib.hid (fun w => by
              have := l6In_any v 0 ((N : Int) - 1) w
              rw [decide_eq_true hin] at this
              exact this)
            obtain ⟨k, hk⟩ : ∃ k : Nat, (k : Int) = v := ⟨v.toNat, by omega⟩
            subst hk
            have HIV := Lib.hid hin
            clear hin
            refine wp_region_held_drew (S := (fun w' => w'.cell? ⟨w1.heap.size, 0, none⟩ = some (.string pb) ∧ w'.cell? ⟨w1.heap.size, 1, none⟩ = some (.slice pa pn pc) ∧ w'.cell? ⟨w2.heap.size, 0, none⟩ = some (.string tb) ∧ w'.cell? ⟨w2.heap.size, 1, none⟩ = some (.slice ta tn tc) ∧ w'.cell? ⟨w3.heap.size, 0, none⟩ = some (.string yb) ∧ w'.cell? ⟨w3.heap.size, 1, none⟩ = some (.slice ya yn yc))) (by kernel_rfl) (by exact ⟨z0, z1, z2, z3, z4, z5⟩) (fun hHeld => ?_)
            refine wpAnyH_take (i := 0) (oi := { dst := some 35, op := Op.move (Operand.tmp 11), type := 4, pos := "l4_patterns.go:69", after := #[], guard := none }) (v := ?_) rfl (by kernel_rfl) (by kernel_rfl) (by kernel_rfl) (fun _ _ _ h => h) (Or.inl ⟨by rfl, ?_⟩) (by assumption) ?_
            rotate_left
            · (intro w hSw; (try dsimp only at hSw); go_simp <;> with_reducible rfl)
            (try simp only [Act.put, List.setIfInBounds_toArray, List.set_cons_zero, List.set_cons_succ])
            refine wpAnyH_take (i := 1) (oi := { dst := some 36, op := Op.unOp UnOp.not 4 (Operand.tmp 35), type := 4, pos := "l4_patterns.go:69", after := #[{ on := 0, ground := Ground.data }], guard := none }) (v := ?_) rfl (by kernel_rfl) (by kernel_rfl) (by kernel_rfl) (fun _ _ _ h => h) (Or.inl ⟨by rfl, ?_⟩) (by assumption) ?_
            rotate_left
            · (intro w hSw; (try dsimp only at hSw); go_simp <;> with_reducible rfl)
            (try simp only [Act.put, List.setIfInBounds_toArray, List.set_cons_zero, List.set_cons_succ])
            refine wpAnyH_take (i := 2) (oi := { dst := some 37, op := Op.move (Operand.tmp 36), type := 4, pos := "l4_patterns.go:69", after := #[{ on := 1, ground := Ground.data }], guard := none }) (v := ?_) rfl (by kernel_rfl) (by kernel_rfl) (by kernel_rfl) (fun _ _ _ h => h) (Or.inl ⟨by rfl, ?_⟩) (by assumption) ?_
            rotate_left
            · (intro w hSw; (try dsimp only at hSw); go_simp <;> with_reducible rfl)
            (try simp only [Act.put, List.setIfInBounds_toArray, List.set_cons_zero, List.set_cons_succ])
            refine wpAnyH_take (i := 3) (oi := { dst := some 38, op := Op.move (Operand.tmp 13), type := 4, pos := "l4_patterns.go:69", after := #[{ on := 2, ground := Ground.guard }], guard := some (2, false) }) (v := ?_) rfl (by kernel_rfl) (by kernel_rfl) (by kernel_rfl) (fun _ _ _ h => h) (Or.inl ⟨by rfl, ?_⟩) (by assumption) ?_
            rotate_left
            · (intro w hSw; (try dsimp only at hSw); go_simp <;> with_reducible rfl)
            (try simp only [Act.put, List.setIfInBounds_toArray, List.set_cons_zero, List.set_cons_succ])
            refine wpAnyH_take (i := 4) (oi := { dst := some 39, op := Op.unOp UnOp.not 4 (Operand.tmp 38), type := 4, pos := "l4_patterns.go:69", after := #[{ on := 3, ground := Ground.data }, { on := 2, ground := Ground.guard }], guard := some (2, false) }) (v := ?_) rfl (by kernel_rfl) (by kernel_rfl) (by kernel_rfl) (fun _ _ _ h => h) (Or.inl ⟨by rfl, ?_⟩) (by assumption) ?_
            rotate_left
            · (intro w hSw; (try dsimp only at hSw); go_simp <;> with_reducible rfl)
            (try simp only [Act.put, List.setIfInBounds_toArray, List.set_cons_zero, List.set_cons_succ])
            refine wpAnyH_take (i := 5) (oi := { dst := some 40, op := Op.pick (Operand.tmp 37) (Operand.const (Value.bool true)) (Operand.tmp 39), type := 4, pos := "l4_patterns.go:69", after := #[{ on := 2, ground := Ground.data }, { on := 4, ground := Ground.data }], guard := none }) (v := ?_) rfl (by kernel_rfl) (by kernel_rfl) (by kernel_rfl) (fun _ _ _ h => h) (Or.inl ⟨by rfl, ?_⟩) (by assumption) ?_
            rotate_left
            · (intro w hSw; (try dsimp only at hSw); go_simp <;> with_reducible rfl)
            (try simp only [Act.put, List.setIfInBounds_toArray, List.set_cons_zero, List.set_cons_succ])
            refine wpAnyH_take (i := 6) (oi := { dst := some 41, op := Op.move (Operand.tmp 40), type := 4, pos := "l4_patterns.go:69", after := #[{ on := 5, ground := Ground.data }, { on := 2, ground := Ground.chain }], guard := none }) (v := ?_) rfl (by kernel_rfl) (by kernel_rfl) (by kernel_rfl) (fun _ _ _ h => h) (Or.inl ⟨by rfl, ?_⟩) (by assumption) ?_
            rotate_left
            · (intro w hSw; (try dsimp only at hSw); go_simp <;> with_reducible rfl)
            (try simp only [Act.put, List.setIfInBounds_toArray, List.set_cons_zero, List.set_cons_succ])
            refine wpAnyH_take (i := 7) (oi := { dst := some 42, op := Op.move (Operand.tmp 15), type := 4, pos := "l4_patterns.go:69", after := #[{ on := 6, ground := Ground.guard }], guard := some (6, false) }) (v := ?_) rfl (by kernel_rfl) (by kernel_rfl) (by kernel_rfl) (fun _ _ _ h => h) (Or.inl ⟨by rfl, ?_⟩) (by assumption) ?_
            rotate_left
            · (intro w hSw; (try dsimp only at hSw); go_simp <;> with_reducible rfl)
            (try simp only [Act.put, List.setIfInBounds_toArray, List.set_cons_zero, List.set_cons_succ])
            refine wpAnyH_take (i := 8) (oi := { dst := some 43, op := Op.unOp UnOp.not 4 (Operand.tmp 42), type := 4, pos := "l4_patterns.go:69", after := #[{ on := 7, ground := Ground.data }, { on := 6, ground := Ground.guard }], guard := some (6, false) }) (v := ?_) rfl (by kernel_rfl) (by kernel_rfl) (by kernel_rfl) (fun _ _ _ h => h) (Or.inl ⟨by rfl, ?_⟩) (by assumption) ?_
            rotate_left
            · (intro w hSw; (try dsimp only at hSw); go_simp <;> with_reducible rfl)
            (try simp only [Act.put, List.setIfInBounds_toArray, List.set_cons_zero, List.set_cons_succ])
            refine wpAnyH_take (i := 9) (oi := { dst := some 44, op := Op.pick (Operand.tmp 41) (Operand.const (Value.bool true)) (Operand.tmp 43), type := 4, pos := "l4_patterns.go:69", after := #[{ on := 6, ground := Ground.data }, { on := 8, ground := Ground.data }], guard := none }) (v := ?_) rfl (by kernel_rfl) (by kernel_rfl) (by kernel_rfl) (fun _ _ _ h => h) (Or.inl ⟨by rfl, ?_⟩) (by assumption) ?_
            rotate_left
            · (intro w hSw; (try dsimp only at hSw); go_simp <;> with_reducible rfl)
            (try simp only [Act.put, List.setIfInBounds_toArray, List.set_cons_zero, List.set_cons_succ])
            refine wpAnyH_take (i := 10) (oi := { dst := some 45, op := Op.move (Operand.tmp 44), type := 4, pos := "l4_patterns.go:69", after := #[{ on := 9, ground := Ground.data }, { on := 6, ground := Ground.chain }], guard := none }) (v := ?_) rfl (by kernel_rfl) (by kernel_rfl) (by kernel_rfl) (fun _ _ _ h => h) (Or.inl ⟨by rfl, ?_⟩) (by assumption) ?_
            rotate_left
            · (intro w hSw; (try dsimp only at hSw); go_simp <;> with_reducible rfl)
            (try simp only [Act.put, List.setIfInBounds_toArray, List.set_cons_zero, List.set_cons_succ])
            refine wpAnyH_take (i := 11) (oi := { dst := some 46, op := Op.load 70 (Operand.tmp 14), type := 70, pos := "l4_patterns.go:69", after := #[{ on := 10, ground := Ground.guard }], guard := some (10, false) }) (v := ?_) rfl (by kernel_rfl) (by kernel_rfl) (by kernel_rfl) (fun _ _ _ h => h) (Or.inl ⟨by rfl, ?_⟩) (by assumption) ?_
            rotate_left
            · (intro w hSw; (try dsimp only at hSw); go_simp <;> with_reducible rfl)
            (try simp only [Act.put, List.setIfInBounds_toArray, List.set_cons_zero, List.set_cons_succ])
            refine wpAnyH_take (i := 13) (oi := { dst := some 48, op := Op.load 70 (Operand.tmp 10), type := 70, pos := "l4_patterns.go:69", after := #[{ on := 10, ground := Ground.guard }], guard := some (10, false) }) (v := ?_) rfl (by kernel_rfl) (by kernel_rfl) (by kernel_rfl) (fun _ _ _ h => h) (Or.inl ⟨by rfl, ?_⟩) (by assumption) ?_
            rotate_left
            · (intro w hSw; (try dsimp only at hSw); go_simp <;> with_reducible rfl)
            (try simp only [Act.put, List.setIfInBounds_toArray, List.set_cons_zero, List.set_cons_succ])
            refine wpAnyH_ready (rs := [12]) (by kernel_rfl) (by simp) ?_
            refine AllReadyH.cons (o := { dst := some 47, op := Op.call { callee := Callee.value (Operand.func 58), args := #[Operand.tmp 46], argTypes := #[70] }, type := 3, pos := "l4_patterns.go:69", after := #[{ on := 11, ground := Ground.data }, { on := 10, ground := Ground.chain }, { on := 10, ground := Ground.guard }], guard := some (10, false) }) rfl (fun K hK => ?_) AllReadyH.nil
            go_simp
            go_wp2_with (go_at_call 58; refine (HLB.out _ (Below.refl _ _).drew).mono ?_; rintro e V1 ⟨rfl, hB1⟩; have hB1' : Below W0.heap.size W0 V1 := (Below.refl _ _).drew.trans hB1; have p0 := keep1 hB1' z0; have p1 := keep1 hB1' z1; have p2 := keep1 hB1' z2; have p3 := keep1 hB1' z3; have p4 := keep1 hB1' z4; have p5 := keep1 hB1' z5; have HC1 := Lib.hid hB1'; clear hB1 hB1')
            refine hK.out _ _ ?_ (fun hHeld => ?_)
            · exact ⟨p0, p1, p2, p3, p4, p5⟩
            clear hK K
            (try simp only [Act.put, List.setIfInBounds_toArray, List.set_cons_zero, List.set_cons_succ])
            refine wpAnyH_ready (rs := [14]) (by kernel_rfl) (by simp) ?_
            refine AllReadyH.cons (o := { dst := some 49, op := Op.call { callee := Callee.value (Operand.func 58), args := #[Operand.tmp 48], argTypes := #[70] }, type := 3, pos := "l4_patterns.go:69", after := #[{ on := 13, ground := Ground.data }, { on := 12, ground := Ground.chain }, { on := 10, ground := Ground.guard }], guard := some (10, false) }) rfl (fun K hK => ?_) AllReadyH.nil
            go_simp
            go_wp2_with (go_at_call 58; have hq := HC1.out; clear hq; refine (HLP.out _ HC1.out).mono ?_; rintro e V2 ⟨rfl, hB2⟩; have q0 := keep1 hB2 p0; have q1 := keep1 hB2 p1; have q2 := keep1 hB2 p2; have q3 := keep1 hB2 p3; have q4 := keep1 hB2 p4; have q5 := keep1 hB2 p5; have HC2 := Lib.hid (below_step HC1.out hB2); clear hB2)
            refine hK.out _ _ ?_ (fun hHeld => ?_)
            · exact ⟨q0, q1, q2, q3, q4, q5⟩
            clear hK K
            (try simp only [Act.put, List.setIfInBounds_toArray, List.set_cons_zero, List.set_cons_succ])
            refine wpAnyH_take (i := 15) (oi := { dst := some 50, op := Op.binOp BinOp.neq 3 (Operand.tmp 47) (Operand.tmp 49) 3, type := 4, pos := "l4_patterns.go:69", after := #[{ on := 12, ground := Ground.data }, { on := 14, ground := Ground.data }, { on := 10, ground := Ground.guard }], guard := some (10, false) }) (v := ?_) rfl (by kernel_rfl) (by kernel_rfl) (by kernel_rfl) (fun _ _ _ h => h) (Or.inl ⟨by rfl, ?_⟩) (by assumption) ?_
            rotate_left
            · (intro w hSw; (try dsimp only at hSw); go_simp <;> with_reducible rfl)
            (try simp only [Act.put, List.setIfInBounds_toArray, List.set_cons_zero, List.set_cons_succ])
            refine wpAnyH_take (i := 16) (oi := { dst := some 51, op := Op.pick (Operand.tmp 45) (Operand.const (Value.bool true)) (Operand.tmp 50), type := 4, pos := "l4_patterns.go:69", after := #[{ on := 10, ground := Ground.data }, { on := 15, ground := Ground.data }], guard := none }) (v := ?_) rfl (by kernel_rfl) (by kernel_rfl) (by kernel_rfl) (fun _ _ _ h => h) (Or.inl ⟨by rfl, ?_⟩) (by assumption) ?_
            rotate_left
            · (intro w hSw; (try dsimp only at hSw); go_simp <;> with_reducible rfl)
            (try simp only [Act.put, List.setIfInBounds_toArray, List.set_cons_zero, List.set_cons_succ])
            refine wpAnyH_take (i := 17) (oi := { dst := some 52, op := Op.move (Operand.tmp 51), type := 4, pos := "l4_patterns.go:69", after := #[{ on := 16, ground := Ground.data }, { on := 14, ground := Ground.chain }], guard := none }) (v := ?_) rfl (by kernel_rfl) (by kernel_rfl) (by kernel_rfl) (fun _ _ _ h => h) (Or.inl ⟨by rfl, ?_⟩) (by assumption) ?_
            rotate_left
            · (intro w hSw; (try dsimp only at hSw); go_simp <;> with_reducible rfl)
            (try simp only [Act.put, List.setIfInBounds_toArray, List.set_cons_zero, List.set_cons_succ])
            refine wpAnyH_take (i := 18) (oi := { dst := some 53, op := Op.move (Operand.tmp 2), type := 3, pos := "l4_patterns.go:69", after := #[{ on := 17, ground := Ground.guard }], guard := some (17, false) }) (v := ?_) rfl (by kernel_rfl) (by kernel_rfl) (by kernel_rfl) (fun _ _ _ h => h) (Or.inl ⟨by rfl, ?_⟩) (by assumption) ?_
            rotate_left
            · (intro w hSw; (try dsimp only at hSw); go_simp <;> with_reducible rfl)
            (try simp only [Act.put, List.setIfInBounds_toArray, List.set_cons_zero, List.set_cons_succ])
            refine wpAnyH_take (i := 19) (oi := { dst := some 54, op := Op.load 70 (Operand.tmp 12), type := 70, pos := "l4_patterns.go:69", after := #[{ on := 17, ground := Ground.guard }], guard := some (17, false) }) (v := ?_) rfl (by kernel_rfl) (by kernel_rfl) (by kernel_rfl) (fun _ _ _ h => h) (Or.inl ⟨by rfl, ?_⟩) (by assumption) ?_
            rotate_left
            · (intro w hSw; (try dsimp only at hSw); go_simp <;> with_reducible rfl)
            (try simp only [Act.put, List.setIfInBounds_toArray, List.set_cons_zero, List.set_cons_succ])
            refine wpAnyH_ready (rs := [20]) (by kernel_rfl) (by simp) ?_
            refine AllReadyH.cons (o := { dst := some 55, op := Op.call { callee := Callee.value (Operand.func 43), args := #[Operand.tmp 54], argTypes := #[70] }, type := 3, pos := "l4_patterns.go:69", after := #[{ on := 19, ground := Ground.data }, { on := 17, ground := Ground.chain }, { on := 17, ground := Ground.guard }], guard := some (17, false) }) rfl (fun K hK => ?_) AllReadyH.nil
            go_simp
            go_wp2_with (go_at_call 43; have hq := HC2.out; clear hq; refine (HNT.out _ HC2.out).mono ?_; rintro e V3 ⟨rfl, hB3⟩; have r0 := keep1 hB3 q0; have r1 := keep1 hB3 q1; have r2 := keep1 hB3 q2; have r3 := keep1 hB3 q3; have r4 := keep1 hB3 q4; have r5 := keep1 hB3 q5; have HC3 := Lib.hid (below_step HC2.out hB3); clear hB3)
            refine hK.out _ _ ?_ (fun hHeld => ?_)
            · exact ⟨r0, r1, r2, r3, r4, r5⟩
            clear hK K
            (try simp only [Act.put, List.setIfInBounds_toArray, List.set_cons_zero, List.set_cons_succ])
            refine wpAnyH_take (i := 21) (oi := { dst := some 56, op := Op.binOp BinOp.sub 3 (Operand.tmp 55) (Operand.const (Value.int IntKind.i64 1)) 3, type := 3, pos := "l4_patterns.go:69", after := #[{ on := 20, ground := Ground.data }, { on := 17, ground := Ground.guard }], guard := some (17, false) }) (v := ?_) rfl (by kernel_rfl) (by kernel_rfl) (by kernel_rfl) (fun _ _ _ h => h) (Or.inl ⟨by rfl, ?_⟩) (by assumption) ?_
            rotate_left
            · (intro w hSw; (try dsimp only at hSw); go_simp <;> with_reducible rfl)
            (try simp only [Act.put, List.setIfInBounds_toArray, List.set_cons_zero, List.set_cons_succ])
            refine wpAnyH_ready (rs := [22]) (by kernel_rfl) (by simp) ?_
            refine AllReadyH.cons (o := { dst := some 57, op := Op.call { callee := Callee.value (Operand.func 59), args := #[Operand.tmp 53, Operand.const (Value.int IntKind.i64 0), Operand.tmp 56], argTypes := #[3, 3, 3] }, type := 4, pos := "l4_patterns.go:69", after := #[{ on := 18, ground := Ground.data }, { on := 21, ground := Ground.data }, { on := 20, ground := Ground.chain }, { on := 17, ground := Ground.guard }], guard := some (17, false) }) rfl (fun K hK => ?_) AllReadyH.nil
            go_simp
            go_wp2_with (go_at_call 59; refine (HIN.out _).mono ?_; rintro e w' ⟨rfl, rfl⟩)
            refine hK.out _ _ ?_ (fun hHeld => ?_)
            · exact ⟨r0, r1, r2, r3, r4, r5⟩
            clear hK K
            (try simp only [Act.put, List.setIfInBounds_toArray, List.set_cons_zero, List.set_cons_succ])
            refine wpAnyH_take (i := 23) (oi := { dst := some 58, op := Op.unOp UnOp.not 4 (Operand.tmp 57), type := 4, pos := "l4_patterns.go:69", after := #[{ on := 22, ground := Ground.data }, { on := 17, ground := Ground.guard }], guard := some (17, false) }) (v := ?_) rfl (by kernel_rfl) (by kernel_rfl) (by kernel_rfl) (fun _ _ _ h => h) (Or.inl ⟨by rfl, ?_⟩) (by assumption) ?_
            rotate_left
            · (intro w hSw; (try dsimp only at hSw); go_simp <;> with_reducible rfl)
            (try simp only [Act.put, List.setIfInBounds_toArray, List.set_cons_zero, List.set_cons_succ])
            refine wpAnyH_take (i := 24) (oi := { dst := some 59, op := Op.pick (Operand.tmp 52) (Operand.const (Value.bool true)) (Operand.tmp 58), type := 4, pos := "l4_patterns.go:69", after := #[{ on := 17, ground := Ground.data }, { on := 23, ground := Ground.data }], guard := none }) (v := ?_) rfl (by kernel_rfl) (by kernel_rfl) (by kernel_rfl) (fun _ _ _ h => h) (Or.inl ⟨by rfl, ?_⟩) (by assumption) ?_
            rotate_left
            · (intro w hSw; (try dsimp only at hSw); go_simp <;> with_reducible rfl)
            (try simp only [Act.put, List.setIfInBounds_toArray, List.set_cons_zero, List.set_cons_succ])
            refine wpAnyH_done (by kernel_rfl) ?_ _
            all_goals
              have HBV := Lib.hid (below_step HBW.out HC3.out)
              have hs3 := HC3.out.size
              have m1 : w1.heap.size < V3.heap.size := by omega
              have m2 : w2.heap.size < V3.heap.size := by omega
              have m3 : w3.heap.size < V3.heap.size := by omega
              clear z0 z1 z2 z3 z4 z5 p0 p1 p2 p3 p4 p5 q0 q1 q2 q3 q4 q5
              obtain ⟨r', q, a, hcut⟩ := cutAt_some t k (by have := HIV.out; have := HNN.out; omega)
              have hqw := (cutAt_wf t k r' q a htw hcut).2.1
              have HCUT := Lib.hid hcut
              have HPT := Lib.hid (l1Part_any _ t (.string tb) (.slice ta tn tc) k r' q a V3 (fun b => b < W0.heap.size) (Nat.le_refl _) htw (by omega) (by have := HNN.out; omega) (by have := HIV.out; have := HNN.out; omega) hcut (fun b h => by omega) (HRT.out.below htw HC3.out))
              clear hcut
              go_wp2_with fail
              refine HPT.out.mono ?_
              rintro e w5 ⟨hB5, sb, sa, sn, sc, rfl, hrs⟩
              have hs5 := hB5.size
              have n1 : w1.heap.size < w5.heap.size := by omega
              have n2 : w2.heap.size < w5.heap.size := by omega
              have n3 : w3.heap.size < w5.heap.size := by omega
              have s0 := keep1 hB5 r0
              have s1 := keep1 hB5 r1
              have s2 := keep1 hB5 r2
              have s3 := keep1 hB5 r3
              have s4 := keep1 hB5 r4
              have s5 := keep1 hB5 r5
              have HB5 := Lib.hid (below_step HC3.out hB5)
              have hX : Below w5.heap.size w5 (w5.alloc (.cells #[.string sb, .slice sa sn sc] 70 (0, 0))) := (Below.refl _ _).alloc (Nat.le_refl _) _
              have hY : Below w5.heap.size w5 ((w5.alloc (.cells #[.string sb, .slice sa sn sc] 70 (0, 0))).alloc (.cells #[] 70 (0, 0))) := hX.alloc (by simp) _
              have HY := Lib.hid hY
              have hrow : Row (trS.inn (fun b => b < w5.heap.size + 1)) 70 (w5.heap.size + 1) [] (.slice (some ⟨w5.heap.size + 1, 0, none⟩) 0 0) [] ((w5.alloc (.cells #[.string sb, .slice sa sn sc] 70 (0, 0))).alloc (.cells #[] 70 (0, 0))) := by
                have h := World.ownsRow_made (base := w5.heap.size + 1) (e := 70) (size := 2) (w5.alloc (.cells #[.string sb, .slice sa sn sc] 70 (0, 0))) #[] 0 (by simp) (by simp [maxLen]) rfl
                rw [World.size_alloc] at h
                exact ⟨h, fun _ h => by simp at h⟩
              have HMT := Lib.hid (l4Match_any _ p q (.string pb) (.slice pa pn pc) (.string sb) (.slice sa sn sc) [] 0 (some ⟨w5.heap.size + 1, 0, none⟩) 0 [] (w5.heap.size + 1) ((w5.alloc (.cells #[.string sb, .slice sa sn sc] 70 (0, 0))).alloc (.cells #[] 70 (0, 0))) (Nat.le_refl _) hpw hqw rfl (by simp) (by omega) (by simp)
                (((HRP.out.below hpw HB5.out).below hpw hY).keep (fun _ _ _ h => h) (fun b h _ => by omega) hpw) ((hrs.below hqw hY).keep (fun _ _ _ h => h) (fun b h _ => by omega) hqw) hrow)
              clear hX hY hrow hrs hB5 r0 r1 r2 r3 r4 r5
              go_wp2_with fail
              refine HMT.out.mono ?_
              rintro e w6 ⟨ok, ts, m, ua, uc, us, rfl, hua, hparts, ho1, ho2⟩
              have h56 : Below w5.heap.size w5 w6 := HY.out.trans (hparts.below.mono (by omega))
              have HB6 := Lib.hid (below_step HB5.out h56)
              have HBW6 := Lib.hid (below_step HBW.out HB6.out)
              have t0 := keep1 h56 s2
              have t1 := keep1 h56 s3
              have t2 := keep1 h56 s4
              have t3 := keep1 h56 s5
              rw [List.nil_append] at hparts
              cases ok with
              | false =>
                have HN : Hid (putV pat s k y = .tuple #[.string ⟨#[]⟩, .bool false]) := Lib.hid (by
                  rw [HV.out, if_pos ⟨hLM, HIV.out⟩, Int.toNat_natCast]; exact putOf_no HCUT.out (ho2 rfl))
                clear ho1 ho2 hparts hua h56
                go_wp2_with fail
                go_ret2
                exact ⟨by rw [HN.out]; rfl, HBW6.out⟩
              | true =>
                have hts := ho1 rfl
                obtain ⟨k1, k2, k3, k4, k5, k6, k7⟩ := put_all hpw htw hbw (by rw [← HL.out, ← HM.out]; exact hLM) ⟨hbl, hbn⟩ ⟨htl, htn⟩ HCUT.out hts
                have HN : Hid (putV pat s k y = doneV (t.putAt k (b.fill ts))) := Lib.hid (by
                  rw [HV.out, if_pos ⟨hLM, HIV.out⟩, Int.toNat_natCast]; exact putOf_yes HCUT.out hts)
                have hml := hparts.len
                obtain ⟨gu, rfl, hgu⟩ := owns_addr hparts.row.own hua
                obtain ⟨_, _, e, hle, hcm, _⟩ := owns_some hparts.row.own (fun e => by simp only [Value.slice.injEq] at e; exact hua e.1)
                simp only [Value.slice.injEq, Option.some.injEq, Addr.mk.injEq] at e
                obtain ⟨e1, e2, e3⟩ := e
                subst e3
                clear e1 e2
                have hgu6 : gu < w6.heap.size := (hparts.row.own.lt gu rfl).2
                have hrl : RepSL w6 (fun b => b < w6.heap.size) ts gu 0 := trS.rl ((Rd.of_inn hparts.row.rd).weak (by decide) (fun _ _ h => h))
                have hs6 := h56.size
                have HWH : Hid (∀ W, Below w6.heap.size w6 W → Calls Try.prog 64 #[.agg #[.string yb, .slice ya yn yc], .slice (some ⟨gu, 0, none⟩) m uc] W (NewSP (fun b => b < w6.heap.size) (b.fill ts) W)) := Lib.hid (fun W hb => by
                  rw [hml]
                  exact l1Whole_any b (.string yb) (.slice ya yn yc) ts gu uc W (fun b => b < w6.heap.size) hbw k2 (by omega) (by omega) hcm (fun b h => by have := hb.size; omega) hgu6 ((((HRB.out.below hbw HB6.out).below hbw hb).keep (fun _ _ _ h => h) (fun b h _ => by omega) hbw)) (hrl.keep (Keeps.of_below hb _) (fun _ h _ => h) hgu6 k2))
                have HRE : Hid (∀ W lu su, Below w6.heap.size w6 W → RepS W (fun b => b < W.heap.size) (b.fill ts) lu su → Calls Try.prog 63 #[.agg #[.string tb, .slice ta tn tc], .int .i64 k, .agg #[lu, su]] W (NewSP (fun b => b < W.heap.size) (t.putAt k (b.fill ts)) W)) := Lib.hid (fun W lu su hb hr =>
                  l1Replace_any _ t (.string tb) (.slice ta tn tc) k (b.fill ts) lu su W (fun b => b < W.heap.size) (Nat.le_refl _) htw k3 (by have := HNN.out; omega) (by have := HIV.out; have := HNN.out; omega) (fun _ h => h) (((HRT.out.below htw HB6.out).below htw hb).keep (fun _ _ _ h => h) (fun b h _ => by have := hb.size; omega) htw) hr)
                have HDN : Hid (∀ W lb sa sn sc P, RepS W P (t.putAt k (b.fill ts)) (.string lb) (.slice sa sn sc) → Calls Try.prog 62 #[.agg #[.string lb, .slice sa sn sc]] W (Ans (doneV (t.putAt k (b.fill ts))) W)) := Lib.hid (fun W lb sa sn sc P hr => l1Done_any _ lb sa sn sc W P k4 (by omega) (by omega) k7 hr)
                obtain ⟨x, bb, hx⟩ := doneV_shape (t.putAt k (b.fill ts))
                rw [hx] at HDN HN
                have HF := Lib.hid k3
                have HK := Lib.hid k4
                have o2 : w2.heap.size < w6.heap.size := by omega
                have o3 : w3.heap.size < w6.heap.size := by omega
                clear ho1 ho2 hparts hua h56 hts k1 k2 k3 k4 k5 k6 k7 hle hcm hrl hx hml hgu hgu6 s0 s1 s2 s3 s4 s5
                go_wp2_with fail
                refine wp_region_held_drew (S := (fun w' => w'.cell? ⟨w2.heap.size, 0, none⟩ = some (.string tb) ∧ w'.cell? ⟨w2.heap.size, 1, none⟩ = some (.slice ta tn tc) ∧ w'.cell? ⟨w3.heap.size, 0, none⟩ = some (.string yb) ∧ w'.cell? ⟨w3.heap.size, 1, none⟩ = some (.slice ya yn yc))) (by kernel_rfl) (by exact ⟨t0, t1, t2, t3⟩) (fun hHeld => ?_)
                refine wpAnyH_take (i := 0) (oi := { dst := some 75, op := Op.load 70 (Operand.tmp 12), type := 70, pos := "l4_patterns.go:77", after := #[], guard := none }) (v := ?_) rfl (by kernel_rfl) (by kernel_rfl) (by kernel_rfl) (fun _ _ _ h => h) (Or.inl ⟨by rfl, ?_⟩) (by assumption) ?_
                rotate_left
                · (intro w hSw; (try dsimp only at hSw); go_simp <;> with_reducible rfl)
                (try simp only [Act.put, List.setIfInBounds_toArray, List.set_cons_zero, List.set_cons_succ])
                refine wpAnyH_take (i := 1) (oi := { dst := some 76, op := Op.move (Operand.tmp 2), type := 3, pos := "l4_patterns.go:77", after := #[], guard := none }) (v := ?_) rfl (by kernel_rfl) (by kernel_rfl) (by kernel_rfl) (fun _ _ _ h => h) (Or.inl ⟨by rfl, ?_⟩) (by assumption) ?_
                rotate_left
                · (intro w hSw; (try dsimp only at hSw); go_simp <;> with_reducible rfl)
                (try simp only [Act.put, List.setIfInBounds_toArray, List.set_cons_zero, List.set_cons_succ])
                refine wpAnyH_take (i := 2) (oi := { dst := some 77, op := Op.load 70 (Operand.tmp 14), type := 70, pos := "l4_patterns.go:77", after := #[], guard := none }) (v := ?_) rfl (by kernel_rfl) (by kernel_rfl) (by kernel_rfl) (fun _ _ _ h => h) (Or.inl ⟨by rfl, ?_⟩) (by assumption) ?_
                rotate_left
                · (intro w hSw; (try dsimp only at hSw); go_simp <;> with_reducible rfl)
                (try simp only [Act.put, List.setIfInBounds_toArray, List.set_cons_zero, List.set_cons_succ])
                refine wpAnyH_take (i := 3) (oi := { dst := some 78, op := Op.move (Operand.tmp 18), type := 68, pos := "l4_patterns.go:77", after := #[], guard := none }) (v := ?_) rfl (by kernel_rfl) (by kernel_rfl) (by kernel_rfl) (fun _ _ _ h => h) (Or.inl ⟨by rfl, ?_⟩) (by assumption) ?_
                rotate_left
                · (intro w hSw; (try dsimp only at hSw); go_simp <;> with_reducible rfl)
                (try simp only [Act.put, List.setIfInBounds_toArray, List.set_cons_zero, List.set_cons_succ])
                refine wpAnyH_ready (rs := [4]) (by kernel_rfl) (by simp) ?_
                refine AllReadyH.cons (o := { dst := some 79, op := Op.call { callee := Callee.value (Operand.func 64), args := #[Operand.tmp 77, Operand.tmp 78], argTypes := #[70, 68] }, type := 70, pos := "l4_patterns.go:77", after := #[{ on := 2, ground := Ground.data }, { on := 3, ground := Ground.data }], guard := none }) rfl (fun K hK => ?_) AllReadyH.nil
                go_simp
                go_wp2_with (go_at_call 64; refine (HWH.out _ (Below.refl _ _).drew).mono ?_; rintro e w7 ⟨hB7, kb, ka, kn, kc, rfl, hr7⟩; have hB7' : Below w6.heap.size w6 w7 := (Below.refl _ _).drew.trans hB7; have a0 := keep1 hB7' t0; have a1 := keep1 hB7' t1; have a2 := keep1 hB7' t2; have a3 := keep1 hB7' t3; have HE7 := Lib.hid hB7'; have HR7 := Lib.hid (hr7.keep (P' := fun b => b < w7.heap.size) (fun _ _ _ h => h) (fun _ _ h => h) HF.out); clear hB7 hB7' hr7)
                refine hK.out _ _ ?_ (fun hHeld => ?_)
                · exact ⟨a0, a1, a2, a3⟩
                clear hK K
                (try simp only [Act.put, List.setIfInBounds_toArray, List.set_cons_zero, List.set_cons_succ])
                refine wpAnyH_ready (rs := [5]) (by kernel_rfl) (by simp) ?_
                refine AllReadyH.cons (o := { dst := some 80, op := Op.call { callee := Callee.value (Operand.func 63), args := #[Operand.tmp 75, Operand.tmp 76, Operand.tmp 79], argTypes := #[70, 3, 70] }, type := 70, pos := "l4_patterns.go:77", after := #[{ on := 0, ground := Ground.data }, { on := 1, ground := Ground.data }, { on := 4, ground := Ground.data }, { on := 4, ground := Ground.chain }], guard := none }) rfl (fun K hK => ?_) AllReadyH.nil
                go_simp
                go_wp2_with (go_at_call 63; refine (HRE.out _ _ _ HE7.out HR7.out).mono ?_; rintro e w8 ⟨hB8, jb, ja, jn, jc, rfl, hr8⟩; have b0 := keep1 hB8 a0; have b1 := keep1 hB8 a1; have b2 := keep1 hB8 a2; have b3 := keep1 hB8 a3; have HE8 := Lib.hid (below_step HE7.out hB8); have HR8 := Lib.hid hr8; clear hB8 hr8)
                refine hK.out _ _ ?_ (fun hHeld => ?_)
                · exact ⟨b0, b1, b2, b3⟩
                clear hK K
                (try simp only [Act.put, List.setIfInBounds_toArray, List.set_cons_zero, List.set_cons_succ])
                refine wpAnyH_ready (rs := [6]) (by kernel_rfl) (by simp) ?_
                refine AllReadyH.cons (o := { dst := some 81, op := Op.call { callee := Callee.value (Operand.func 62), args := #[Operand.tmp 80], argTypes := #[70] }, type := 26, pos := "l4_patterns.go:77", after := #[{ on := 5, ground := Ground.data }, { on := 5, ground := Ground.chain }], guard := none }) rfl (fun K hK => ?_) AllReadyH.nil
                go_simp
                go_wp2_with (go_at_call 62; refine (HDN.out _ _ _ _ _ _ HR8.out).mono ?_; rintro e w9 ⟨rfl, hB9⟩; have d0 := keep1 hB9 b0; have d1 := keep1 hB9 b1; have d2 := keep1 hB9 b2; have d3 := keep1 hB9 b3; have HE9 := Lib.hid (below_step HE8.out hB9); clear hB9)
                refine hK.out _ _ ?_ (fun hHeld => ?_)
                · exact ⟨d0, d1, d2, d3⟩
                clear hK K
                (try simp only [Act.put, List.setIfInBounds_toArray, List.set_cons_zero, List.set_cons_succ])
                refine wpAnyH_take (i := 7) (oi := { dst := some 82, op := Op.extract (Operand.tmp 81) 0, type := 9, pos := "l4_patterns.go:77", after := #[{ on := 6, ground := Ground.data }], guard := none }) (v := ?_) rfl (by kernel_rfl) (by kernel_rfl) (by kernel_rfl) (fun _ _ _ h => h) (Or.inl ⟨by rfl, ?_⟩) (by assumption) ?_
                rotate_left
                · (intro w hSw; (try dsimp only at hSw); go_simp <;> with_reducible rfl)
                (try simp only [Act.put, List.setIfInBounds_toArray, List.set_cons_zero, List.set_cons_succ])
                refine wpAnyH_take (i := 8) (oi := { dst := some 83, op := Op.extract (Operand.tmp 81) 1, type := 4, pos := "l4_patterns.go:77", after := #[{ on := 6, ground := Ground.data }], guard := none }) (v := ?_) rfl (by kernel_rfl) (by kernel_rfl) (by kernel_rfl) (fun _ _ _ h => h) (Or.inl ⟨by rfl, ?_⟩) (by assumption) ?_
                rotate_left
                · (intro w hSw; (try dsimp only at hSw); go_simp <;> with_reducible rfl)
                (try simp only [Act.put, List.setIfInBounds_toArray, List.set_cons_zero, List.set_cons_succ])
                refine wpAnyH_take (i := 9) (oi := { dst := some 8, op := Op.assign (Operand.tmp 82), type := 9, pos := "l4_patterns.go:77", after := #[{ on := 7, ground := Ground.data }, { on := 6, ground := Ground.chain }, { on := 0, ground := Ground.phase }, { on := 1, ground := Ground.phase }, { on := 2, ground := Ground.phase }, { on := 3, ground := Ground.phase }, { on := 4, ground := Ground.phase }, { on := 5, ground := Ground.phase }, { on := 6, ground := Ground.phase }, { on := 7, ground := Ground.phase }, { on := 8, ground := Ground.phase }], guard := none }) (v := ?_) rfl (by kernel_rfl) (by kernel_rfl) (by kernel_rfl) (fun _ _ _ h => h) (Or.inl ⟨by rfl, ?_⟩) (by assumption) ?_
                rotate_left
                · (intro w hSw; (try dsimp only at hSw); go_simp <;> with_reducible rfl)
                (try simp only [Act.put, List.setIfInBounds_toArray, List.set_cons_zero, List.set_cons_succ])
                refine wpAnyH_take (i := 10) (oi := { dst := some 9, op := Op.assign (Operand.tmp 83), type := 4, pos := "l4_patterns.go:77", after := #[{ on := 8, ground := Ground.data }, { on := 9, ground := Ground.chain }, { on := 0, ground := Ground.phase }, { on := 1, ground := Ground.phase }, { on := 2, ground := Ground.phase }, { on := 3, ground := Ground.phase }, { on := 4, ground := Ground.phase }, { on := 5, ground := Ground.phase }, { on := 6, ground := Ground.phase }, { on := 7, ground := Ground.phase }, { on := 8, ground := Ground.phase }, { on := 9, ground := Ground.phase }], guard := none }) (v := ?_) rfl (by kernel_rfl) (by kernel_rfl) (by kernel_rfl) (fun _ _ _ h => h) (Or.inl ⟨by rfl, ?_⟩) (by assumption) ?_
                rotate_left
                · (intro w hSw; (try dsimp only at hSw); go_simp <;> with_reducible rfl)
                (try simp only [Act.put, List.setIfInBounds_toArray, List.set_cons_zero, List.set_cons_succ])
                refine wpAnyH_done (by kernel_rfl) ?_ _
                all_goals
                  go_wp2_with fail
                  go_ret2
                  exact ⟨by rw [HN.out]; rfl, below_step HBW6.out HE9.out⟩
          · have HIN : Hid (∀ w, Calls Try.prog 59 #[.int .i64 v, .int .i64 0, .int .i64 ((N : Int) - 1)] w fun e w' => e = .returned (.bool false) ∧ w = w') := Lib.hid (fun w => by
              have := l6In_any v 0 ((N : Int) - 1) w
              rw [decide_eq_false hin] at this
              exact this)
            have HN : Hid (putV pat s v y = .tuple #[.string ⟨#[]⟩, .bool false]) := Lib.hid (by rw [HV.out, if_neg (fun h => hin h.2)])
            clear hin
            refine wp_region_held_drew (S := (fun w' => w'.cell? ⟨w1.heap.size, 0, none⟩ = some (.string pb) ∧ w'.cell? ⟨w1.heap.size, 1, none⟩ = some (.slice pa pn pc) ∧ w'.cell? ⟨w2.heap.size, 0, none⟩ = some (.string tb) ∧ w'.cell? ⟨w2.heap.size, 1, none⟩ = some (.slice ta tn tc) ∧ w'.cell? ⟨w3.heap.size, 0, none⟩ = some (.string yb) ∧ w'.cell? ⟨w3.heap.size, 1, none⟩ = some (.slice ya yn yc))) (by kernel_rfl) (by exact ⟨z0, z1, z2, z3, z4, z5⟩) (fun hHeld => ?_)
            refine wpAnyH_take (i := 0) (oi := { dst := some 35, op := Op.move (Operand.tmp 11), type := 4, pos := "l4_patterns.go:69", after := #[], guard := none }) (v := ?_) rfl (by kernel_rfl) (by kernel_rfl) (by kernel_rfl) (fun _ _ _ h => h) (Or.inl ⟨by rfl, ?_⟩) (by assumption) ?_
            rotate_left
            · (intro w hSw; (try dsimp only at hSw); go_simp <;> with_reducible rfl)
            (try simp only [Act.put, List.setIfInBounds_toArray, List.set_cons_zero, List.set_cons_succ])
            refine wpAnyH_take (i := 1) (oi := { dst := some 36, op := Op.unOp UnOp.not 4 (Operand.tmp 35), type := 4, pos := "l4_patterns.go:69", after := #[{ on := 0, ground := Ground.data }], guard := none }) (v := ?_) rfl (by kernel_rfl) (by kernel_rfl) (by kernel_rfl) (fun _ _ _ h => h) (Or.inl ⟨by rfl, ?_⟩) (by assumption) ?_
            rotate_left
            · (intro w hSw; (try dsimp only at hSw); go_simp <;> with_reducible rfl)
            (try simp only [Act.put, List.setIfInBounds_toArray, List.set_cons_zero, List.set_cons_succ])
            refine wpAnyH_take (i := 2) (oi := { dst := some 37, op := Op.move (Operand.tmp 36), type := 4, pos := "l4_patterns.go:69", after := #[{ on := 1, ground := Ground.data }], guard := none }) (v := ?_) rfl (by kernel_rfl) (by kernel_rfl) (by kernel_rfl) (fun _ _ _ h => h) (Or.inl ⟨by rfl, ?_⟩) (by assumption) ?_
            rotate_left
            · (intro w hSw; (try dsimp only at hSw); go_simp <;> with_reducible rfl)
            (try simp only [Act.put, List.setIfInBounds_toArray, List.set_cons_zero, List.set_cons_succ])
            refine wpAnyH_take (i := 3) (oi := { dst := some 38, op := Op.move (Operand.tmp 13), type := 4, pos := "l4_patterns.go:69", after := #[{ on := 2, ground := Ground.guard }], guard := some (2, false) }) (v := ?_) rfl (by kernel_rfl) (by kernel_rfl) (by kernel_rfl) (fun _ _ _ h => h) (Or.inl ⟨by rfl, ?_⟩) (by assumption) ?_
            rotate_left
            · (intro w hSw; (try dsimp only at hSw); go_simp <;> with_reducible rfl)
            (try simp only [Act.put, List.setIfInBounds_toArray, List.set_cons_zero, List.set_cons_succ])
            refine wpAnyH_take (i := 4) (oi := { dst := some 39, op := Op.unOp UnOp.not 4 (Operand.tmp 38), type := 4, pos := "l4_patterns.go:69", after := #[{ on := 3, ground := Ground.data }, { on := 2, ground := Ground.guard }], guard := some (2, false) }) (v := ?_) rfl (by kernel_rfl) (by kernel_rfl) (by kernel_rfl) (fun _ _ _ h => h) (Or.inl ⟨by rfl, ?_⟩) (by assumption) ?_
            rotate_left
            · (intro w hSw; (try dsimp only at hSw); go_simp <;> with_reducible rfl)
            (try simp only [Act.put, List.setIfInBounds_toArray, List.set_cons_zero, List.set_cons_succ])
            refine wpAnyH_take (i := 5) (oi := { dst := some 40, op := Op.pick (Operand.tmp 37) (Operand.const (Value.bool true)) (Operand.tmp 39), type := 4, pos := "l4_patterns.go:69", after := #[{ on := 2, ground := Ground.data }, { on := 4, ground := Ground.data }], guard := none }) (v := ?_) rfl (by kernel_rfl) (by kernel_rfl) (by kernel_rfl) (fun _ _ _ h => h) (Or.inl ⟨by rfl, ?_⟩) (by assumption) ?_
            rotate_left
            · (intro w hSw; (try dsimp only at hSw); go_simp <;> with_reducible rfl)
            (try simp only [Act.put, List.setIfInBounds_toArray, List.set_cons_zero, List.set_cons_succ])
            refine wpAnyH_take (i := 6) (oi := { dst := some 41, op := Op.move (Operand.tmp 40), type := 4, pos := "l4_patterns.go:69", after := #[{ on := 5, ground := Ground.data }, { on := 2, ground := Ground.chain }], guard := none }) (v := ?_) rfl (by kernel_rfl) (by kernel_rfl) (by kernel_rfl) (fun _ _ _ h => h) (Or.inl ⟨by rfl, ?_⟩) (by assumption) ?_
            rotate_left
            · (intro w hSw; (try dsimp only at hSw); go_simp <;> with_reducible rfl)
            (try simp only [Act.put, List.setIfInBounds_toArray, List.set_cons_zero, List.set_cons_succ])
            refine wpAnyH_take (i := 7) (oi := { dst := some 42, op := Op.move (Operand.tmp 15), type := 4, pos := "l4_patterns.go:69", after := #[{ on := 6, ground := Ground.guard }], guard := some (6, false) }) (v := ?_) rfl (by kernel_rfl) (by kernel_rfl) (by kernel_rfl) (fun _ _ _ h => h) (Or.inl ⟨by rfl, ?_⟩) (by assumption) ?_
            rotate_left
            · (intro w hSw; (try dsimp only at hSw); go_simp <;> with_reducible rfl)
            (try simp only [Act.put, List.setIfInBounds_toArray, List.set_cons_zero, List.set_cons_succ])
            refine wpAnyH_take (i := 8) (oi := { dst := some 43, op := Op.unOp UnOp.not 4 (Operand.tmp 42), type := 4, pos := "l4_patterns.go:69", after := #[{ on := 7, ground := Ground.data }, { on := 6, ground := Ground.guard }], guard := some (6, false) }) (v := ?_) rfl (by kernel_rfl) (by kernel_rfl) (by kernel_rfl) (fun _ _ _ h => h) (Or.inl ⟨by rfl, ?_⟩) (by assumption) ?_
            rotate_left
            · (intro w hSw; (try dsimp only at hSw); go_simp <;> with_reducible rfl)
            (try simp only [Act.put, List.setIfInBounds_toArray, List.set_cons_zero, List.set_cons_succ])
            refine wpAnyH_take (i := 9) (oi := { dst := some 44, op := Op.pick (Operand.tmp 41) (Operand.const (Value.bool true)) (Operand.tmp 43), type := 4, pos := "l4_patterns.go:69", after := #[{ on := 6, ground := Ground.data }, { on := 8, ground := Ground.data }], guard := none }) (v := ?_) rfl (by kernel_rfl) (by kernel_rfl) (by kernel_rfl) (fun _ _ _ h => h) (Or.inl ⟨by rfl, ?_⟩) (by assumption) ?_
            rotate_left
            · (intro w hSw; (try dsimp only at hSw); go_simp <;> with_reducible rfl)
            (try simp only [Act.put, List.setIfInBounds_toArray, List.set_cons_zero, List.set_cons_succ])
            refine wpAnyH_take (i := 10) (oi := { dst := some 45, op := Op.move (Operand.tmp 44), type := 4, pos := "l4_patterns.go:69", after := #[{ on := 9, ground := Ground.data }, { on := 6, ground := Ground.chain }], guard := none }) (v := ?_) rfl (by kernel_rfl) (by kernel_rfl) (by kernel_rfl) (fun _ _ _ h => h) (Or.inl ⟨by rfl, ?_⟩) (by assumption) ?_
            rotate_left
            · (intro w hSw; (try dsimp only at hSw); go_simp <;> with_reducible rfl)
            (try simp only [Act.put, List.setIfInBounds_toArray, List.set_cons_zero, List.set_cons_succ])
            refine wpAnyH_take (i := 11) (oi := { dst := some 46, op := Op.load 70 (Operand.tmp 14), type := 70, pos := "l4_patterns.go:69", after := #[{ on := 10, ground := Ground.guard }], guard := some (10, false) }) (v := ?_) rfl (by kernel_rfl) (by kernel_rfl) (by kernel_rfl) (fun _ _ _ h => h) (Or.inl ⟨by rfl, ?_⟩) (by assumption) ?_
            rotate_left
            · (intro w hSw; (try dsimp only at hSw); go_simp <;> with_reducible rfl)
            (try simp only [Act.put, List.setIfInBounds_toArray, List.set_cons_zero, List.set_cons_succ])
            refine wpAnyH_take (i := 13) (oi := { dst := some 48, op := Op.load 70 (Operand.tmp 10), type := 70, pos := "l4_patterns.go:69", after := #[{ on := 10, ground := Ground.guard }], guard := some (10, false) }) (v := ?_) rfl (by kernel_rfl) (by kernel_rfl) (by kernel_rfl) (fun _ _ _ h => h) (Or.inl ⟨by rfl, ?_⟩) (by assumption) ?_
            rotate_left
            · (intro w hSw; (try dsimp only at hSw); go_simp <;> with_reducible rfl)
            (try simp only [Act.put, List.setIfInBounds_toArray, List.set_cons_zero, List.set_cons_succ])
            refine wpAnyH_ready (rs := [12]) (by kernel_rfl) (by simp) ?_
            refine AllReadyH.cons (o := { dst := some 47, op := Op.call { callee := Callee.value (Operand.func 58), args := #[Operand.tmp 46], argTypes := #[70] }, type := 3, pos := "l4_patterns.go:69", after := #[{ on := 11, ground := Ground.data }, { on := 10, ground := Ground.chain }, { on := 10, ground := Ground.guard }], guard := some (10, false) }) rfl (fun K hK => ?_) AllReadyH.nil
            go_simp
            go_wp2_with (go_at_call 58; refine (HLB.out _ (Below.refl _ _).drew).mono ?_; rintro e V1 ⟨rfl, hB1⟩; have hB1' : Below W0.heap.size W0 V1 := (Below.refl _ _).drew.trans hB1; have p0 := keep1 hB1' z0; have p1 := keep1 hB1' z1; have p2 := keep1 hB1' z2; have p3 := keep1 hB1' z3; have p4 := keep1 hB1' z4; have p5 := keep1 hB1' z5; have HC1 := Lib.hid hB1'; clear hB1 hB1')
            refine hK.out _ _ ?_ (fun hHeld => ?_)
            · exact ⟨p0, p1, p2, p3, p4, p5⟩
            clear hK K
            (try simp only [Act.put, List.setIfInBounds_toArray, List.set_cons_zero, List.set_cons_succ])
            refine wpAnyH_ready (rs := [14]) (by kernel_rfl) (by simp) ?_
            refine AllReadyH.cons (o := { dst := some 49, op := Op.call { callee := Callee.value (Operand.func 58), args := #[Operand.tmp 48], argTypes := #[70] }, type := 3, pos := "l4_patterns.go:69", after := #[{ on := 13, ground := Ground.data }, { on := 12, ground := Ground.chain }, { on := 10, ground := Ground.guard }], guard := some (10, false) }) rfl (fun K hK => ?_) AllReadyH.nil
            go_simp
            go_wp2_with (go_at_call 58; have hq := HC1.out; clear hq; refine (HLP.out _ HC1.out).mono ?_; rintro e V2 ⟨rfl, hB2⟩; have q0 := keep1 hB2 p0; have q1 := keep1 hB2 p1; have q2 := keep1 hB2 p2; have q3 := keep1 hB2 p3; have q4 := keep1 hB2 p4; have q5 := keep1 hB2 p5; have HC2 := Lib.hid (below_step HC1.out hB2); clear hB2)
            refine hK.out _ _ ?_ (fun hHeld => ?_)
            · exact ⟨q0, q1, q2, q3, q4, q5⟩
            clear hK K
            (try simp only [Act.put, List.setIfInBounds_toArray, List.set_cons_zero, List.set_cons_succ])
            refine wpAnyH_take (i := 15) (oi := { dst := some 50, op := Op.binOp BinOp.neq 3 (Operand.tmp 47) (Operand.tmp 49) 3, type := 4, pos := "l4_patterns.go:69", after := #[{ on := 12, ground := Ground.data }, { on := 14, ground := Ground.data }, { on := 10, ground := Ground.guard }], guard := some (10, false) }) (v := ?_) rfl (by kernel_rfl) (by kernel_rfl) (by kernel_rfl) (fun _ _ _ h => h) (Or.inl ⟨by rfl, ?_⟩) (by assumption) ?_
            rotate_left
            · (intro w hSw; (try dsimp only at hSw); go_simp <;> with_reducible rfl)
            (try simp only [Act.put, List.setIfInBounds_toArray, List.set_cons_zero, List.set_cons_succ])
            refine wpAnyH_take (i := 16) (oi := { dst := some 51, op := Op.pick (Operand.tmp 45) (Operand.const (Value.bool true)) (Operand.tmp 50), type := 4, pos := "l4_patterns.go:69", after := #[{ on := 10, ground := Ground.data }, { on := 15, ground := Ground.data }], guard := none }) (v := ?_) rfl (by kernel_rfl) (by kernel_rfl) (by kernel_rfl) (fun _ _ _ h => h) (Or.inl ⟨by rfl, ?_⟩) (by assumption) ?_
            rotate_left
            · (intro w hSw; (try dsimp only at hSw); go_simp <;> with_reducible rfl)
            (try simp only [Act.put, List.setIfInBounds_toArray, List.set_cons_zero, List.set_cons_succ])
            refine wpAnyH_take (i := 17) (oi := { dst := some 52, op := Op.move (Operand.tmp 51), type := 4, pos := "l4_patterns.go:69", after := #[{ on := 16, ground := Ground.data }, { on := 14, ground := Ground.chain }], guard := none }) (v := ?_) rfl (by kernel_rfl) (by kernel_rfl) (by kernel_rfl) (fun _ _ _ h => h) (Or.inl ⟨by rfl, ?_⟩) (by assumption) ?_
            rotate_left
            · (intro w hSw; (try dsimp only at hSw); go_simp <;> with_reducible rfl)
            (try simp only [Act.put, List.setIfInBounds_toArray, List.set_cons_zero, List.set_cons_succ])
            refine wpAnyH_take (i := 18) (oi := { dst := some 53, op := Op.move (Operand.tmp 2), type := 3, pos := "l4_patterns.go:69", after := #[{ on := 17, ground := Ground.guard }], guard := some (17, false) }) (v := ?_) rfl (by kernel_rfl) (by kernel_rfl) (by kernel_rfl) (fun _ _ _ h => h) (Or.inl ⟨by rfl, ?_⟩) (by assumption) ?_
            rotate_left
            · (intro w hSw; (try dsimp only at hSw); go_simp <;> with_reducible rfl)
            (try simp only [Act.put, List.setIfInBounds_toArray, List.set_cons_zero, List.set_cons_succ])
            refine wpAnyH_take (i := 19) (oi := { dst := some 54, op := Op.load 70 (Operand.tmp 12), type := 70, pos := "l4_patterns.go:69", after := #[{ on := 17, ground := Ground.guard }], guard := some (17, false) }) (v := ?_) rfl (by kernel_rfl) (by kernel_rfl) (by kernel_rfl) (fun _ _ _ h => h) (Or.inl ⟨by rfl, ?_⟩) (by assumption) ?_
            rotate_left
            · (intro w hSw; (try dsimp only at hSw); go_simp <;> with_reducible rfl)
            (try simp only [Act.put, List.setIfInBounds_toArray, List.set_cons_zero, List.set_cons_succ])
            refine wpAnyH_ready (rs := [20]) (by kernel_rfl) (by simp) ?_
            refine AllReadyH.cons (o := { dst := some 55, op := Op.call { callee := Callee.value (Operand.func 43), args := #[Operand.tmp 54], argTypes := #[70] }, type := 3, pos := "l4_patterns.go:69", after := #[{ on := 19, ground := Ground.data }, { on := 17, ground := Ground.chain }, { on := 17, ground := Ground.guard }], guard := some (17, false) }) rfl (fun K hK => ?_) AllReadyH.nil
            go_simp
            go_wp2_with (go_at_call 43; have hq := HC2.out; clear hq; refine (HNT.out _ HC2.out).mono ?_; rintro e V3 ⟨rfl, hB3⟩; have r0 := keep1 hB3 q0; have r1 := keep1 hB3 q1; have r2 := keep1 hB3 q2; have r3 := keep1 hB3 q3; have r4 := keep1 hB3 q4; have r5 := keep1 hB3 q5; have HC3 := Lib.hid (below_step HC2.out hB3); clear hB3)
            refine hK.out _ _ ?_ (fun hHeld => ?_)
            · exact ⟨r0, r1, r2, r3, r4, r5⟩
            clear hK K
            (try simp only [Act.put, List.setIfInBounds_toArray, List.set_cons_zero, List.set_cons_succ])
            refine wpAnyH_take (i := 21) (oi := { dst := some 56, op := Op.binOp BinOp.sub 3 (Operand.tmp 55) (Operand.const (Value.int IntKind.i64 1)) 3, type := 3, pos := "l4_patterns.go:69", after := #[{ on := 20, ground := Ground.data }, { on := 17, ground := Ground.guard }], guard := some (17, false) }) (v := ?_) rfl (by kernel_rfl) (by kernel_rfl) (by kernel_rfl) (fun _ _ _ h => h) (Or.inl ⟨by rfl, ?_⟩) (by assumption) ?_
            rotate_left
            · (intro w hSw; (try dsimp only at hSw); go_simp <;> with_reducible rfl)
            (try simp only [Act.put, List.setIfInBounds_toArray, List.set_cons_zero, List.set_cons_succ])
            refine wpAnyH_ready (rs := [22]) (by kernel_rfl) (by simp) ?_
            refine AllReadyH.cons (o := { dst := some 57, op := Op.call { callee := Callee.value (Operand.func 59), args := #[Operand.tmp 53, Operand.const (Value.int IntKind.i64 0), Operand.tmp 56], argTypes := #[3, 3, 3] }, type := 4, pos := "l4_patterns.go:69", after := #[{ on := 18, ground := Ground.data }, { on := 21, ground := Ground.data }, { on := 20, ground := Ground.chain }, { on := 17, ground := Ground.guard }], guard := some (17, false) }) rfl (fun K hK => ?_) AllReadyH.nil
            go_simp
            go_wp2_with (go_at_call 59; refine (HIN.out _).mono ?_; rintro e w' ⟨rfl, rfl⟩)
            refine hK.out _ _ ?_ (fun hHeld => ?_)
            · exact ⟨r0, r1, r2, r3, r4, r5⟩
            clear hK K
            (try simp only [Act.put, List.setIfInBounds_toArray, List.set_cons_zero, List.set_cons_succ])
            refine wpAnyH_take (i := 23) (oi := { dst := some 58, op := Op.unOp UnOp.not 4 (Operand.tmp 57), type := 4, pos := "l4_patterns.go:69", after := #[{ on := 22, ground := Ground.data }, { on := 17, ground := Ground.guard }], guard := some (17, false) }) (v := ?_) rfl (by kernel_rfl) (by kernel_rfl) (by kernel_rfl) (fun _ _ _ h => h) (Or.inl ⟨by rfl, ?_⟩) (by assumption) ?_
            rotate_left
            · (intro w hSw; (try dsimp only at hSw); go_simp <;> with_reducible rfl)
            (try simp only [Act.put, List.setIfInBounds_toArray, List.set_cons_zero, List.set_cons_succ])
            refine wpAnyH_take (i := 24) (oi := { dst := some 59, op := Op.pick (Operand.tmp 52) (Operand.const (Value.bool true)) (Operand.tmp 58), type := 4, pos := "l4_patterns.go:69", after := #[{ on := 17, ground := Ground.data }, { on := 23, ground := Ground.data }], guard := none }) (v := ?_) rfl (by kernel_rfl) (by kernel_rfl) (by kernel_rfl) (fun _ _ _ h => h) (Or.inl ⟨by rfl, ?_⟩) (by assumption) ?_
            rotate_left
            · (intro w hSw; (try dsimp only at hSw); go_simp <;> with_reducible rfl)
            (try simp only [Act.put, List.setIfInBounds_toArray, List.set_cons_zero, List.set_cons_succ])
            refine wpAnyH_done (by kernel_rfl) ?_ _
            all_goals
              go_wp2_with fail
              go_ret2
              exact ⟨by rw [HN.out]; rfl, below_step HBW.out HC3.out⟩
        · have hLM1 : ((L : Int) != (M : Int)) = true := by simp; omega
          have hLM2 : ((L : Int) == (M : Int)) = false := by simp; omega
          have hLM3 : (L != M) = true := by simpa using hLM
          have hLM4 : (L == M) = false := by simpa using hLM
          have HN : Hid (putV pat s v y = .tuple #[.string ⟨#[]⟩, .bool false]) := Lib.hid (by rw [HV.out, if_neg (fun h => hLM h.1)])
          refine wp_region_held_drew (S := (fun w' => w'.cell? ⟨w1.heap.size, 0, none⟩ = some (.string pb) ∧ w'.cell? ⟨w1.heap.size, 1, none⟩ = some (.slice pa pn pc) ∧ w'.cell? ⟨w2.heap.size, 0, none⟩ = some (.string tb) ∧ w'.cell? ⟨w2.heap.size, 1, none⟩ = some (.slice ta tn tc) ∧ w'.cell? ⟨w3.heap.size, 0, none⟩ = some (.string yb) ∧ w'.cell? ⟨w3.heap.size, 1, none⟩ = some (.slice ya yn yc))) (by kernel_rfl) (by exact ⟨z0, z1, z2, z3, z4, z5⟩) (fun hHeld => ?_)
          refine wpAnyH_take (i := 0) (oi := { dst := some 35, op := Op.move (Operand.tmp 11), type := 4, pos := "l4_patterns.go:69", after := #[], guard := none }) (v := ?_) rfl (by kernel_rfl) (by kernel_rfl) (by kernel_rfl) (fun _ _ _ h => h) (Or.inl ⟨by rfl, ?_⟩) (by assumption) ?_
          rotate_left
          · (intro w hSw; (try dsimp only at hSw); go_simp <;> with_reducible rfl)
          (try simp only [Act.put, List.setIfInBounds_toArray, List.set_cons_zero, List.set_cons_succ])
          refine wpAnyH_take (i := 1) (oi := { dst := some 36, op := Op.unOp UnOp.not 4 (Operand.tmp 35), type := 4, pos := "l4_patterns.go:69", after := #[{ on := 0, ground := Ground.data }], guard := none }) (v := ?_) rfl (by kernel_rfl) (by kernel_rfl) (by kernel_rfl) (fun _ _ _ h => h) (Or.inl ⟨by rfl, ?_⟩) (by assumption) ?_
          rotate_left
          · (intro w hSw; (try dsimp only at hSw); go_simp <;> with_reducible rfl)
          (try simp only [Act.put, List.setIfInBounds_toArray, List.set_cons_zero, List.set_cons_succ])
          refine wpAnyH_take (i := 2) (oi := { dst := some 37, op := Op.move (Operand.tmp 36), type := 4, pos := "l4_patterns.go:69", after := #[{ on := 1, ground := Ground.data }], guard := none }) (v := ?_) rfl (by kernel_rfl) (by kernel_rfl) (by kernel_rfl) (fun _ _ _ h => h) (Or.inl ⟨by rfl, ?_⟩) (by assumption) ?_
          rotate_left
          · (intro w hSw; (try dsimp only at hSw); go_simp <;> with_reducible rfl)
          (try simp only [Act.put, List.setIfInBounds_toArray, List.set_cons_zero, List.set_cons_succ])
          refine wpAnyH_take (i := 3) (oi := { dst := some 38, op := Op.move (Operand.tmp 13), type := 4, pos := "l4_patterns.go:69", after := #[{ on := 2, ground := Ground.guard }], guard := some (2, false) }) (v := ?_) rfl (by kernel_rfl) (by kernel_rfl) (by kernel_rfl) (fun _ _ _ h => h) (Or.inl ⟨by rfl, ?_⟩) (by assumption) ?_
          rotate_left
          · (intro w hSw; (try dsimp only at hSw); go_simp <;> with_reducible rfl)
          (try simp only [Act.put, List.setIfInBounds_toArray, List.set_cons_zero, List.set_cons_succ])
          refine wpAnyH_take (i := 4) (oi := { dst := some 39, op := Op.unOp UnOp.not 4 (Operand.tmp 38), type := 4, pos := "l4_patterns.go:69", after := #[{ on := 3, ground := Ground.data }, { on := 2, ground := Ground.guard }], guard := some (2, false) }) (v := ?_) rfl (by kernel_rfl) (by kernel_rfl) (by kernel_rfl) (fun _ _ _ h => h) (Or.inl ⟨by rfl, ?_⟩) (by assumption) ?_
          rotate_left
          · (intro w hSw; (try dsimp only at hSw); go_simp <;> with_reducible rfl)
          (try simp only [Act.put, List.setIfInBounds_toArray, List.set_cons_zero, List.set_cons_succ])
          refine wpAnyH_take (i := 5) (oi := { dst := some 40, op := Op.pick (Operand.tmp 37) (Operand.const (Value.bool true)) (Operand.tmp 39), type := 4, pos := "l4_patterns.go:69", after := #[{ on := 2, ground := Ground.data }, { on := 4, ground := Ground.data }], guard := none }) (v := ?_) rfl (by kernel_rfl) (by kernel_rfl) (by kernel_rfl) (fun _ _ _ h => h) (Or.inl ⟨by rfl, ?_⟩) (by assumption) ?_
          rotate_left
          · (intro w hSw; (try dsimp only at hSw); go_simp <;> with_reducible rfl)
          (try simp only [Act.put, List.setIfInBounds_toArray, List.set_cons_zero, List.set_cons_succ])
          refine wpAnyH_take (i := 6) (oi := { dst := some 41, op := Op.move (Operand.tmp 40), type := 4, pos := "l4_patterns.go:69", after := #[{ on := 5, ground := Ground.data }, { on := 2, ground := Ground.chain }], guard := none }) (v := ?_) rfl (by kernel_rfl) (by kernel_rfl) (by kernel_rfl) (fun _ _ _ h => h) (Or.inl ⟨by rfl, ?_⟩) (by assumption) ?_
          rotate_left
          · (intro w hSw; (try dsimp only at hSw); go_simp <;> with_reducible rfl)
          (try simp only [Act.put, List.setIfInBounds_toArray, List.set_cons_zero, List.set_cons_succ])
          refine wpAnyH_take (i := 7) (oi := { dst := some 42, op := Op.move (Operand.tmp 15), type := 4, pos := "l4_patterns.go:69", after := #[{ on := 6, ground := Ground.guard }], guard := some (6, false) }) (v := ?_) rfl (by kernel_rfl) (by kernel_rfl) (by kernel_rfl) (fun _ _ _ h => h) (Or.inl ⟨by rfl, ?_⟩) (by assumption) ?_
          rotate_left
          · (intro w hSw; (try dsimp only at hSw); go_simp <;> with_reducible rfl)
          (try simp only [Act.put, List.setIfInBounds_toArray, List.set_cons_zero, List.set_cons_succ])
          refine wpAnyH_take (i := 8) (oi := { dst := some 43, op := Op.unOp UnOp.not 4 (Operand.tmp 42), type := 4, pos := "l4_patterns.go:69", after := #[{ on := 7, ground := Ground.data }, { on := 6, ground := Ground.guard }], guard := some (6, false) }) (v := ?_) rfl (by kernel_rfl) (by kernel_rfl) (by kernel_rfl) (fun _ _ _ h => h) (Or.inl ⟨by rfl, ?_⟩) (by assumption) ?_
          rotate_left
          · (intro w hSw; (try dsimp only at hSw); go_simp <;> with_reducible rfl)
          (try simp only [Act.put, List.setIfInBounds_toArray, List.set_cons_zero, List.set_cons_succ])
          refine wpAnyH_take (i := 9) (oi := { dst := some 44, op := Op.pick (Operand.tmp 41) (Operand.const (Value.bool true)) (Operand.tmp 43), type := 4, pos := "l4_patterns.go:69", after := #[{ on := 6, ground := Ground.data }, { on := 8, ground := Ground.data }], guard := none }) (v := ?_) rfl (by kernel_rfl) (by kernel_rfl) (by kernel_rfl) (fun _ _ _ h => h) (Or.inl ⟨by rfl, ?_⟩) (by assumption) ?_
          rotate_left
          · (intro w hSw; (try dsimp only at hSw); go_simp <;> with_reducible rfl)
          (try simp only [Act.put, List.setIfInBounds_toArray, List.set_cons_zero, List.set_cons_succ])
          refine wpAnyH_take (i := 10) (oi := { dst := some 45, op := Op.move (Operand.tmp 44), type := 4, pos := "l4_patterns.go:69", after := #[{ on := 9, ground := Ground.data }, { on := 6, ground := Ground.chain }], guard := none }) (v := ?_) rfl (by kernel_rfl) (by kernel_rfl) (by kernel_rfl) (fun _ _ _ h => h) (Or.inl ⟨by rfl, ?_⟩) (by assumption) ?_
          rotate_left
          · (intro w hSw; (try dsimp only at hSw); go_simp <;> with_reducible rfl)
          (try simp only [Act.put, List.setIfInBounds_toArray, List.set_cons_zero, List.set_cons_succ])
          refine wpAnyH_take (i := 11) (oi := { dst := some 46, op := Op.load 70 (Operand.tmp 14), type := 70, pos := "l4_patterns.go:69", after := #[{ on := 10, ground := Ground.guard }], guard := some (10, false) }) (v := ?_) rfl (by kernel_rfl) (by kernel_rfl) (by kernel_rfl) (fun _ _ _ h => h) (Or.inl ⟨by rfl, ?_⟩) (by assumption) ?_
          rotate_left
          · (intro w hSw; (try dsimp only at hSw); go_simp <;> with_reducible rfl)
          (try simp only [Act.put, List.setIfInBounds_toArray, List.set_cons_zero, List.set_cons_succ])
          refine wpAnyH_take (i := 13) (oi := { dst := some 48, op := Op.load 70 (Operand.tmp 10), type := 70, pos := "l4_patterns.go:69", after := #[{ on := 10, ground := Ground.guard }], guard := some (10, false) }) (v := ?_) rfl (by kernel_rfl) (by kernel_rfl) (by kernel_rfl) (fun _ _ _ h => h) (Or.inl ⟨by rfl, ?_⟩) (by assumption) ?_
          rotate_left
          · (intro w hSw; (try dsimp only at hSw); go_simp <;> with_reducible rfl)
          (try simp only [Act.put, List.setIfInBounds_toArray, List.set_cons_zero, List.set_cons_succ])
          refine wpAnyH_ready (rs := [12]) (by kernel_rfl) (by simp) ?_
          refine AllReadyH.cons (o := { dst := some 47, op := Op.call { callee := Callee.value (Operand.func 58), args := #[Operand.tmp 46], argTypes := #[70] }, type := 3, pos := "l4_patterns.go:69", after := #[{ on := 11, ground := Ground.data }, { on := 10, ground := Ground.chain }, { on := 10, ground := Ground.guard }], guard := some (10, false) }) rfl (fun K hK => ?_) AllReadyH.nil
          go_simp
          go_wp2_with (go_at_call 58; refine (HLB.out _ (Below.refl _ _).drew).mono ?_; rintro e V1 ⟨rfl, hB1⟩; have hB1' : Below W0.heap.size W0 V1 := (Below.refl _ _).drew.trans hB1; have p0 := keep1 hB1' z0; have p1 := keep1 hB1' z1; have p2 := keep1 hB1' z2; have p3 := keep1 hB1' z3; have p4 := keep1 hB1' z4; have p5 := keep1 hB1' z5; have HC1 := Lib.hid hB1'; clear hB1 hB1')
          refine hK.out _ _ ?_ (fun hHeld => ?_)
          · exact ⟨p0, p1, p2, p3, p4, p5⟩
          clear hK K
          (try simp only [Act.put, List.setIfInBounds_toArray, List.set_cons_zero, List.set_cons_succ])
          refine wpAnyH_ready (rs := [14]) (by kernel_rfl) (by simp) ?_
          refine AllReadyH.cons (o := { dst := some 49, op := Op.call { callee := Callee.value (Operand.func 58), args := #[Operand.tmp 48], argTypes := #[70] }, type := 3, pos := "l4_patterns.go:69", after := #[{ on := 13, ground := Ground.data }, { on := 12, ground := Ground.chain }, { on := 10, ground := Ground.guard }], guard := some (10, false) }) rfl (fun K hK => ?_) AllReadyH.nil
          go_simp
          go_wp2_with (go_at_call 58; have hq := HC1.out; clear hq; refine (HLP.out _ HC1.out).mono ?_; rintro e V2 ⟨rfl, hB2⟩; have q0 := keep1 hB2 p0; have q1 := keep1 hB2 p1; have q2 := keep1 hB2 p2; have q3 := keep1 hB2 p3; have q4 := keep1 hB2 p4; have q5 := keep1 hB2 p5; have HC2 := Lib.hid (below_step HC1.out hB2); clear hB2)
          refine hK.out _ _ ?_ (fun hHeld => ?_)
          · exact ⟨q0, q1, q2, q3, q4, q5⟩
          clear hK K
          (try simp only [Act.put, List.setIfInBounds_toArray, List.set_cons_zero, List.set_cons_succ])
          refine wpAnyH_take (i := 15) (oi := { dst := some 50, op := Op.binOp BinOp.neq 3 (Operand.tmp 47) (Operand.tmp 49) 3, type := 4, pos := "l4_patterns.go:69", after := #[{ on := 12, ground := Ground.data }, { on := 14, ground := Ground.data }, { on := 10, ground := Ground.guard }], guard := some (10, false) }) (v := ?_) rfl (by kernel_rfl) (by kernel_rfl) (by kernel_rfl) (fun _ _ _ h => h) (Or.inl ⟨by rfl, ?_⟩) (by assumption) ?_
          rotate_left
          · (intro w hSw; (try dsimp only at hSw); go_simp <;> with_reducible rfl)
          (try simp only [Act.put, List.setIfInBounds_toArray, List.set_cons_zero, List.set_cons_succ])
          refine wpAnyH_take (i := 16) (oi := { dst := some 51, op := Op.pick (Operand.tmp 45) (Operand.const (Value.bool true)) (Operand.tmp 50), type := 4, pos := "l4_patterns.go:69", after := #[{ on := 10, ground := Ground.data }, { on := 15, ground := Ground.data }], guard := none }) (v := ?_) rfl (by kernel_rfl) (by kernel_rfl) (by kernel_rfl) (fun _ _ _ h => h) (Or.inl ⟨by rfl, ?_⟩) (by assumption) ?_
          rotate_left
          · (intro w hSw; (try dsimp only at hSw); go_simp <;> with_reducible rfl)
          (try simp only [Act.put, List.setIfInBounds_toArray, List.set_cons_zero, List.set_cons_succ])
          refine wpAnyH_take (i := 17) (oi := { dst := some 52, op := Op.move (Operand.tmp 51), type := 4, pos := "l4_patterns.go:69", after := #[{ on := 16, ground := Ground.data }, { on := 14, ground := Ground.chain }], guard := none }) (v := ?_) rfl (by kernel_rfl) (by kernel_rfl) (by kernel_rfl) (fun _ _ _ h => h) (Or.inl ⟨by rfl, ?_⟩) (by assumption) ?_
          rotate_left
          · (intro w hSw; (try dsimp only at hSw); go_simp <;> with_reducible rfl)
          (try simp only [Act.put, List.setIfInBounds_toArray, List.set_cons_zero, List.set_cons_succ])
          refine wpAnyH_take (i := 18) (oi := { dst := some 53, op := Op.move (Operand.tmp 2), type := 3, pos := "l4_patterns.go:69", after := #[{ on := 17, ground := Ground.guard }], guard := some (17, false) }) (v := undef) rfl (by kernel_rfl) (by kernel_rfl) (by kernel_rfl) (fun _ _ _ h => h) (Or.inr ⟨by rfl, rfl⟩) (by assumption) ?_
          (try simp only [Act.put, List.setIfInBounds_toArray, List.set_cons_zero, List.set_cons_succ])
          refine wpAnyH_take (i := 19) (oi := { dst := some 54, op := Op.load 70 (Operand.tmp 12), type := 70, pos := "l4_patterns.go:69", after := #[{ on := 17, ground := Ground.guard }], guard := some (17, false) }) (v := undef) rfl (by kernel_rfl) (by kernel_rfl) (by kernel_rfl) (fun _ _ _ h => h) (Or.inr ⟨by rfl, rfl⟩) (by assumption) ?_
          (try simp only [Act.put, List.setIfInBounds_toArray, List.set_cons_zero, List.set_cons_succ])
          refine wpAnyH_take (i := 20) (oi := { dst := some 55, op := Op.call { callee := Callee.value (Operand.func 43), args := #[Operand.tmp 54], argTypes := #[70] }, type := 3, pos := "l4_patterns.go:69", after := #[{ on := 19, ground := Ground.data }, { on := 17, ground := Ground.chain }, { on := 17, ground := Ground.guard }], guard := some (17, false) }) (v := undef) rfl (by kernel_rfl) (by kernel_rfl) (by kernel_rfl) (fun _ _ _ h => h) (Or.inr ⟨by rfl, rfl⟩) (by assumption) ?_
          (try simp only [Act.put, List.setIfInBounds_toArray, List.set_cons_zero, List.set_cons_succ])
          refine wpAnyH_take (i := 21) (oi := { dst := some 56, op := Op.binOp BinOp.sub 3 (Operand.tmp 55) (Operand.const (Value.int IntKind.i64 1)) 3, type := 3, pos := "l4_patterns.go:69", after := #[{ on := 20, ground := Ground.data }, { on := 17, ground := Ground.guard }], guard := some (17, false) }) (v := undef) rfl (by kernel_rfl) (by kernel_rfl) (by kernel_rfl) (fun _ _ _ h => h) (Or.inr ⟨by rfl, rfl⟩) (by assumption) ?_
          (try simp only [Act.put, List.setIfInBounds_toArray, List.set_cons_zero, List.set_cons_succ])
          refine wpAnyH_take (i := 22) (oi := { dst := some 57, op := Op.call { callee := Callee.value (Operand.func 59), args := #[Operand.tmp 53, Operand.const (Value.int IntKind.i64 0), Operand.tmp 56], argTypes := #[3, 3, 3] }, type := 4, pos := "l4_patterns.go:69", after := #[{ on := 18, ground := Ground.data }, { on := 21, ground := Ground.data }, { on := 20, ground := Ground.chain }, { on := 17, ground := Ground.guard }], guard := some (17, false) }) (v := undef) rfl (by kernel_rfl) (by kernel_rfl) (by kernel_rfl) (fun _ _ _ h => h) (Or.inr ⟨by rfl, rfl⟩) (by assumption) ?_
          (try simp only [Act.put, List.setIfInBounds_toArray, List.set_cons_zero, List.set_cons_succ])
          refine wpAnyH_take (i := 23) (oi := { dst := some 58, op := Op.unOp UnOp.not 4 (Operand.tmp 57), type := 4, pos := "l4_patterns.go:69", after := #[{ on := 22, ground := Ground.data }, { on := 17, ground := Ground.guard }], guard := some (17, false) }) (v := undef) rfl (by kernel_rfl) (by kernel_rfl) (by kernel_rfl) (fun _ _ _ h => h) (Or.inr ⟨by rfl, rfl⟩) (by assumption) ?_
          (try simp only [Act.put, List.setIfInBounds_toArray, List.set_cons_zero, List.set_cons_succ])
          refine wpAnyH_take (i := 24) (oi := { dst := some 59, op := Op.pick (Operand.tmp 52) (Operand.const (Value.bool true)) (Operand.tmp 58), type := 4, pos := "l4_patterns.go:69", after := #[{ on := 17, ground := Ground.data }, { on := 23, ground := Ground.data }], guard := none }) (v := ?_) rfl (by kernel_rfl) (by kernel_rfl) (by kernel_rfl) (fun _ _ _ h => h) (Or.inl ⟨by rfl, ?_⟩) (by assumption) ?_
          rotate_left
          · (intro w hSw; (try dsimp only at hSw); go_simp <;> with_reducible rfl)
          (try simp only [Act.put, List.setIfInBounds_toArray, List.set_cons_zero, List.set_cons_succ])
          refine wpAnyH_done (by kernel_rfl) ?_ _
          all_goals
            go_wp2_with fail
            go_ret2
            exact ⟨by rw [HN.out]; rfl, below_step HBW.out HC2.out⟩
end Go.Proofs.Ytfjodghnheliaaa
