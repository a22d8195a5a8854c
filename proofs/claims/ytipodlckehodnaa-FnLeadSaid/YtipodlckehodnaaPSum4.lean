/- A sum and a tree are drawn; FnCoef, FnLead. -/
import Derived.Test.YtipodlckehodnaaKPSum
import Derived.Deep.RegionHeld3
namespace Go.Proofs.Ytipodlckehodnaa
open Go.RowKit

/-- A list of terms and a text are drawn. -/
def DrLS (w : World) (e : Ending) (w' : World) : Prop :=
  Below w.heap.size w w' ∧ ∃ (ys : List (Int × ByteArray)) (g n c : Nat) (s : ByteArray), e = .returned (.tuple #[.slice (some ⟨g, 0, none⟩) n c, .string s]) ∧ n = ys.length ∧ n ≤ 60 ∧ TmSmall ys ∧ TermL w' g ys ∧ s.size ≤ 2000

set_option maxRecDepth 100000 in
set_option maxHeartbeats 2000000 in
theorem dCoef_any (bs : List Nat) (a : Option Addr) (cap : Nat) (w : World) (hn : bs.length ≤ 9223372036854775807) (hcap : bs.length ≤ cap) (h8 : ∀ z ∈ bs, z ≤ 255) (hl : LiesB w a bs) :
    Calls Try.prog 26 #[.slice a bs.length cap] w (DrLS w) := by
  have HO := Lib.hid (l6Open_any bs a cap w hn hcap h8 hl)
  clear h8 hl
  go_enter Try.func26, Try.ntmps26
  go_wp2_with fail
  refine HO.out.mono ?_
  rintro e w1 ⟨rfl, hb1, hr1⟩
  have HX := Lib.hid (l91Sum_any w.heap.size a cap (bs.take 2000) 0 3 w1 (by omega) (by omega) (by omega) hr1)
  have HB1 := Lib.hid hb1
  have hRw1 := hr1.cells.2.2.2
  clear hb1 hr1
  go_wp2_with fail
  refine HX.out.mono ?_
  rintro e w3 ⟨hg3, ys, g, n, c, q, rfl, hny, hn60, hsm, htl, hge, hr3, hq⟩
  have HB3 := Lib.hid (below_over HB1.out hg3 (fun r e => by cases e; exact Nat.le_refl _))
  have HT3 := Lib.hid htl
  have HNY := Lib.hid hny
  have hgR : g ≠ w.heap.size := by omega
  have HP3 := Lib.hid (pick_any w.heap.size a cap q 2 (bs.take 2000) w3 hr3 (by omega) (by omega) (by omega))
  have HR3 := Lib.hid hr3
  clear hg3 hr3 htl hny
  by_cases hn0 : n = 0
  · have e0 : decide ((0 : Int) < (n : Int)) = false := decide_eq_false (by omega)
    have e1 : ¬ (0 : Int) < (n : Int) := by omega
    have e2 : ¬ 0 < n := by omega
    have HTX := Lib.hid (l91Text_any w.heap.size a cap (bs.take 2000) 2 q w3 (by decide) (by omega) HR3.out)
    clear hn0
    go_wp2_with fail
    refine HTX.out.mono ?_
    rintro e w4 ⟨hg4, s, q4, rfl, hss, hr4, hq4⟩
    have HB4 := Lib.hid (below_over HB3.out hg4 (fun r e => by cases e; exact Nat.le_refl _))
    have HT4 := Lib.hid (HT3.out.moved hg4 hgR)
    clear hg4 hr4
    go_wp2_with fail
    go_ret2
    exact ⟨HB4.out, ys, g, n, c, s, rfl, HNY.out, hn60, hsm, HT4.out, hss⟩
  · have e0 : decide ((0 : Int) < (n : Int)) = true := decide_eq_true (by omega)
    have e1 : (0 : Int) < (n : Int) := by omega
    have e2 : 0 < n := by omega
    clear hn0
    go_wp2_with fail
    refine HP3.out.mono ?_
    rintro e w4 ⟨⟨k, hk, rfl⟩, hg4, hs4, hr4⟩
    have HB4 := Lib.hid (below_over HB3.out hg4 (fun r e => by cases e; exact Nat.le_refl _))
    have HT3' := Lib.hid (HT3.out.moved hg4 hgR)
    by_cases hk0 : k = 0
    · subst hk0
      have HT3 := HT3'
      have HT4 := Lib.hid (HT3.out.below (Below.refl w4.heap.size w4).drew)
      have hb4 : Below w4.heap.size w4 w4.drew := (Below.refl _ _).drew
      have HB4 := Lib.hid (below_step HB4.out hb4)
      have HP4 := Lib.hid (pick_any w.heap.size a cap (q + 1) n (bs.take 2000) w4.drew (hr4.grown (grownBy_below (grownBy_refl w4 none) hb4) (fun _ e => by cases e)) (by omega) (by omega) (by omega))
      clear hg4 hs4 hr4 hb4
      go_wp2_with fail
      refine wp_region_held_drew (S := (fun w' => TermL w' g ys)) (by kernel_rfl) (by exact HT3.out) (fun hHeld => ?_)
      refine wpAnyH_take (i := 0) (oi := { dst := some 18, op := Op.move (Operand.tmp 5), type := 23, pos := "l91_draw.go:254", after := #[], guard := none }) (v := ?_) rfl (by kernel_rfl) (by kernel_rfl) (by kernel_rfl) (fun _ _ _ h => h) (Or.inl ⟨by rfl, ?_⟩) (by assumption) ?_
      rotate_left
      · (intro w hSw; (try dsimp only at hSw); go_simp <;> with_reducible rfl)
      (try simp only [Act.put, List.setIfInBounds_toArray, List.set_cons_zero, List.set_cons_succ])
      refine wpAnyH_take (i := 1) (oi := { dst := some 19, op := Op.move (Operand.tmp 5), type := 23, pos := "l91_draw.go:254", after := #[{ on := 9, ground := Ground.gcOnly Departure.lateStores }], guard := none }) (v := ?_) rfl (by kernel_rfl) (by kernel_rfl) (by kernel_rfl) (fun _ _ _ h => h) (Or.inl ⟨by rfl, ?_⟩) (by assumption) ?_
      rotate_left
      · (intro w hSw; (try dsimp only at hSw); go_simp <;> with_reducible rfl)
      (try simp only [Act.put, List.setIfInBounds_toArray, List.set_cons_zero, List.set_cons_succ])
      refine wpAnyH_take (i := 2) (oi := { dst := some 20, op := Op.move (Operand.tmp 4), type := 58, pos := "l91_draw.go:254", after := #[], guard := none }) (v := ?_) rfl (by kernel_rfl) (by kernel_rfl) (by kernel_rfl) (fun _ _ _ h => h) (Or.inl ⟨by rfl, ?_⟩) (by assumption) ?_
      rotate_left
      · (intro w hSw; (try dsimp only at hSw); go_simp <;> with_reducible rfl)
      (try simp only [Act.put, List.setIfInBounds_toArray, List.set_cons_zero, List.set_cons_succ])
      refine wpAnyH_take (i := 3) (oi := { dst := some 21, op := Op.move (Operand.tmp 5), type := 23, pos := "l91_draw.go:254", after := #[], guard := none }) (v := ?_) rfl (by kernel_rfl) (by kernel_rfl) (by kernel_rfl) (fun _ _ _ h => h) (Or.inl ⟨by rfl, ?_⟩) (by assumption) ?_
      rotate_left
      · (intro w hSw; (try dsimp only at hSw); go_simp <;> with_reducible rfl)
      (try simp only [Act.put, List.setIfInBounds_toArray, List.set_cons_zero, List.set_cons_succ])
      refine wpAnyH_take (i := 4) (oi := { dst := some 22, op := Op.call { callee := Callee.builtin Builtin.len, args := #[Operand.tmp 21], argTypes := #[23] }, type := 3, pos := "l91_draw.go:254", after := #[{ on := 3, ground := Ground.data }], guard := none }) (v := ?_) rfl (by kernel_rfl) (by kernel_rfl) (by kernel_rfl) (fun _ _ _ h => h) (Or.inl ⟨by rfl, ?_⟩) (by assumption) ?_
      rotate_left
      · (intro w hSw; (try dsimp only at hSw); go_simp <;> with_reducible rfl)
      (try simp only [Act.put, List.setIfInBounds_toArray, List.set_cons_zero, List.set_cons_succ])
      refine wpAnyH_ready (rs := [5]) (by kernel_rfl) (by simp) ?_
      refine AllReadyH.cons (o := { dst := some 23, op := Op.call { callee := Callee.value (Operand.func 51), args := #[Operand.tmp 20, Operand.tmp 22], argTypes := #[58, 3] }, type := 3, pos := "l91_draw.go:254", after := #[{ on := 2, ground := Ground.data }, { on := 4, ground := Ground.data }], guard := none }) rfl (fun K hK => ?_) AllReadyH.nil
      go_simp
      go_wp2_with fail
      refine HP4.out.mono ?_
      rintro e w5 ⟨⟨x, hx, rfl⟩, hg5, hs5, hr5⟩
      have HB5 := Lib.hid (below_over HB4.out hg5 (fun r e => by cases e; exact Nat.le_refl _))
      have HT5 := Lib.hid (HT4.out.moved hg5 (by omega))
      have x0 : (0 : Int) ≤ (x : Int) := by omega
      have hxy : x < ys.length := by rw [← HNY.out]; exact hx
      obtain ⟨s, hs⟩ : ∃ s, s = (ys[x]).2 := ⟨_, rfl⟩
      have hss : s.size ≤ 2000 := by rw [hs]; exact (hsm x hxy).1
      have HSX := Lib.hid hs
      clear hg5 hs5 hr5 hs
      go_wp2_with fail
      refine hK.out _ _ ?_ (fun hHeld => ?_)
      · exact HT5.out
      clear hK K
      (try simp only [Act.put, List.setIfInBounds_toArray, List.set_cons_zero, List.set_cons_succ])
      refine wpAnyH_take (i := 6) (oi := { dst := some 24, op := Op.indexAddr 23 (Operand.tmp 19) (Operand.tmp 23), type := 0, pos := "l91_draw.go:254", after := #[{ on := 1, ground := Ground.data }, { on := 5, ground := Ground.data }, { on := 9, ground := Ground.gcOnly Departure.lateStores }], guard := none }) (v := ?_) rfl (by kernel_rfl) (by kernel_rfl) (by kernel_rfl) (fun _ _ _ h => h) (Or.inl ⟨by rfl, ?_⟩) (by assumption) ?_
      rotate_left
      · (intro w hSw; (try dsimp only at hSw); go_simp <;> with_reducible rfl)
      (try simp only [Act.put, List.setIfInBounds_toArray, List.set_cons_zero, List.set_cons_succ])
      refine wpAnyH_take (i := 7) (oi := { dst := some 25, op := Op.fieldAddr 32 (Operand.tmp 24) 1, type := 0, pos := "l91_draw.go:254", after := #[{ on := 6, ground := Ground.data }, { on := 9, ground := Ground.gcOnly Departure.lateStores }], guard := none }) (v := ?_) rfl (by kernel_rfl) (by kernel_rfl) (by kernel_rfl) (fun _ _ _ h => h) (Or.inl ⟨by rfl, ?_⟩) (by assumption) ?_
      rotate_left
      · (intro w hSw; (try dsimp only at hSw); go_simp <;> with_reducible rfl)
      (try simp only [Act.put, List.setIfInBounds_toArray, List.set_cons_zero, List.set_cons_succ])
      refine wpAnyH_take (i := 8) (oi := { dst := some 26, op := Op.load 9 (Operand.tmp 25), type := 9, pos := "l91_draw.go:254", after := #[{ on := 7, ground := Ground.data }, { on := 9, ground := Ground.gcOnly Departure.lateStores }], guard := none }) (v := ?_) rfl (by kernel_rfl) (by kernel_rfl) (by kernel_rfl) (fun _ _ _ h => h) (Or.inl ⟨by rfl, ?_⟩) (by assumption) ?_
      rotate_left
      · (intro w hSw; have hc := (hSw x hxy).2; rw [← HSX.out] at hc; clear hSw; go_simp <;> with_reducible rfl)
      (try simp only [Act.put, List.setIfInBounds_toArray, List.set_cons_zero, List.set_cons_succ])
      refine wpAnyH_take (i := 9) (oi := { dst := some 2, op := Op.assign (Operand.tmp 18), type := 23, pos := "l91_draw.go:254", after := #[{ on := 0, ground := Ground.data }, { on := 5, ground := Ground.chain }, { on := 0, ground := Ground.phase }, { on := 1, ground := Ground.textOnly Departure.lateStores }, { on := 2, ground := Ground.textOnly Departure.lateStores }, { on := 3, ground := Ground.textOnly Departure.lateStores }, { on := 4, ground := Ground.textOnly Departure.lateStoresUnsure }, { on := 5, ground := Ground.textOnly Departure.lateStoresUnsure }, { on := 6, ground := Ground.textOnly Departure.lateStores }, { on := 7, ground := Ground.textOnly Departure.lateStores }, { on := 8, ground := Ground.textOnly Departure.lateStores }], guard := none }) (v := ?_) rfl (by kernel_rfl) (by kernel_rfl) (by kernel_rfl) (fun _ _ _ h => h) (Or.inl ⟨by rfl, ?_⟩) (by assumption) ?_
      rotate_left
      · (intro w hSw; (try dsimp only at hSw); go_simp <;> with_reducible rfl)
      (try simp only [Act.put, List.setIfInBounds_toArray, List.set_cons_zero, List.set_cons_succ])
      refine wpAnyH_take (i := 10) (oi := { dst := some 3, op := Op.assign (Operand.tmp 26), type := 9, pos := "l91_draw.go:254", after := #[{ on := 8, ground := Ground.data }, { on := 9, ground := Ground.chain }, { on := 0, ground := Ground.phase }, { on := 1, ground := Ground.phase }, { on := 2, ground := Ground.phase }, { on := 3, ground := Ground.phase }, { on := 4, ground := Ground.phase }, { on := 5, ground := Ground.phase }, { on := 6, ground := Ground.phase }, { on := 7, ground := Ground.phase }, { on := 8, ground := Ground.phase }, { on := 9, ground := Ground.phase }], guard := none }) (v := ?_) rfl (by kernel_rfl) (by kernel_rfl) (by kernel_rfl) (fun _ _ _ h => h) (Or.inl ⟨by rfl, ?_⟩) (by assumption) ?_
      rotate_left
      · (intro w hSw; (try dsimp only at hSw); go_simp <;> with_reducible rfl)
      (try simp only [Act.put, List.setIfInBounds_toArray, List.set_cons_zero, List.set_cons_succ])
      refine wpAnyH_done (by kernel_rfl) ?_ _
      all_goals
        go_wp2_with fail
        go_ret2
        exact ⟨HB5.out, ys, g, n, c, s, rfl, HNY.out, hn60, hsm, HT5.out, hss⟩
    · have e3 : ((k : Int) == 0) = false := beq_false_of_ne (by omega)
      have HTX := Lib.hid (l91Text_any w.heap.size a cap (bs.take 2000) 2 (q + 1) w4 (by decide) (by omega) hr4)
      clear hg4 hs4 hr4 hk0
      go_wp2_with fail
      refine HTX.out.mono ?_
      rintro e w5 ⟨hg5, s, q5, rfl, hss, hr5, hq5⟩
      have HB5 := Lib.hid (below_over HB4.out hg5 (fun r e => by cases e; exact Nat.le_refl _))
      have HT5 := Lib.hid (HT3'.out.moved hg5 hgR)
      clear hg5 hr5
      go_wp2_with fail
      go_ret2
      exact ⟨HB5.out, ys, g, n, c, s, rfl, HNY.out, hn60, hsm, HT5.out, hss⟩

theorem scl_size {xs : List (Int × ByteArray)} {m : Int} {ms : List Tm} (h : sclOf xs m = some ms) (h1 : -1000000 ≤ m) (h2 : m ≤ 1000000) : ∀ j (h : j < (txtTm ms).length), ((txtTm ms)[j]).2.size ≤ 1048576 := by
  obtain ⟨ps, hps⟩ := sclOf_sum h
  have h7 := scl_told hps m h1 h2
  have h8 : ms = canon (sclTm m ps) := by rw [h7.1] at h; exact (Option.some.inj h).symm
  subst h8
  exact (sum_size ⟨_, h7.2⟩).2

set_option maxRecDepth 100000 in
set_option maxHeartbeats 2000000 in
theorem pCoef_any (bs : List Nat) (a : Option Addr) (cap : Nat) (w : World) (hl : LiesB w a bs) (h8 : ∀ z ∈ bs, z ≤ 255) (hn : bs.length ≤ 9223372036854775807) (hcap : bs.length ≤ cap) :
    Calls Try.prog 7 #[.slice a bs.length cap] w (Ans (.bool true) w) := by
  by_cases h : bs.length ≤ 1048576
  · have HD := Lib.hid (dCoef_any bs a cap w hn hcap h8 hl)
    clear h8 hl
    go_enter Try.func7, Try.ntmps7
    go_wp2_with fail
    refine HD.out.mono ?_
    rintro e w1 ⟨hB1, ys, g, n, c, s, rfl, hny, hn60, hsm, htl, hss⟩
    have HB1 := Lib.hid hB1
    have A1_1 := Lib.hid (Below.refl w1.heap.size w1)
    have HL := Lib.hid htl
    have HNY := Lib.hid hny
    have HSZ := Lib.hid hsm.size
    clear hB1 htl hny hsm
    obtain ⟨x, hx⟩ : ∃ x, x = coefV ys s := ⟨_, rfl⟩
    have HX : Hid (Value.int .i64 (coefV ys s) = .int .i64 x) := Lib.hid (by rw [hx])
    by_cases hx0 : x < 0
    · have e0 : decide (x < 0) = true := decide_eq_true hx0
      clear hx hx0
      go_wp2_with fail
      refine ((iSumCoef_any ys n HNY.out g c s w1 (by omega) HSZ.out (by omega) (HL.out.below A1_1.out)).mono fun _ _ h => Ans.is h HX.out).mono ?_
      rintro e w2 ⟨rfl, hB⟩
      have A1_2 := Lib.hid (below_step A1_1.out hB)
      have HB2 := Lib.hid (below_step HB1.out hB)
      clear hB
      go_wp2_with fail
      refine ((sSumCoef_any ys n HNY.out g c s w2 (by omega) HSZ.out (by omega) (HL.out.below A1_2.out)).mono fun _ _ h => Ans.is h HX.out).mono ?_
      rintro e w3 ⟨rfl, hB⟩
      have A1_3 := Lib.hid (below_step A1_2.out hB)
      have HB3 := Lib.hid (below_step HB2.out hB)
      clear hB
      go_wp2_with fail
      go_ret
      exact ⟨rfl, HB3.out⟩
    · obtain ⟨ms, e1, e2, e3, e4, e5⟩ := fnCoef_told (xs := ys) (s := s) (by rw [← hx]; omega)
      obtain ⟨y, hy⟩ : ∃ y, y = coefV (txtTm ms) s := ⟨_, rfl⟩
      rw [← hx] at e2 e3
      rw [← hy] at e3 e4 e5
      have HY : Hid (Value.int .i64 (coefV (txtTm ms) s) = .int .i64 y) := Lib.hid (by rw [hy])
      obtain ⟨M, hM⟩ : ∃ M, M = ms.length := ⟨_, rfl⟩
      have HE := Lib.hid e1
      have HNM := Lib.hid hM
      have HNR : Hid (M = (txtTm ms).length) := Lib.hid (by rw [txtTm_length]; exact hM)
      have hM60 : M ≤ 60 := by rw [hM]; exact sclOf_len e1.symm
      have HSM := Lib.hid (scl_size e1 (by omega) (by omega))
      have d0 : decide (x < 0) = false := decide_eq_false hx0
      have d1 : decide (x < 101) = true := decide_eq_true e2
      have hw1 : IntKind.i64.wrap (x + y) = x + y := by rw [IntKind.wrap_i64]; omega
      have hw2 : (x + y).tmod 101 = 0 := by rw [Int.tmod_eq_emod_of_nonneg (by omega)]; omega
      have hx1 : ¬ x < 0 := hx0
      clear hx hy e1 hM hx0
      go_wp2_with fail
      refine ((iSumCoef_any ys n HNY.out g c s w1 (by omega) HSZ.out (by omega) (HL.out.below A1_1.out)).mono fun _ _ h => Ans.is h HX.out).mono ?_
      rintro e w2 ⟨rfl, hB⟩
      have A1_2 := Lib.hid (below_step A1_1.out hB)
      have HB2 := Lib.hid (below_step HB1.out hB)
      clear hB
      go_wp2_with fail
      refine ((sSumCoef_any ys n HNY.out g c s w2 (by omega) HSZ.out (by omega) (HL.out.below A1_2.out)).mono fun _ _ h => Ans.is h HX.out).mono ?_
      rintro e w3 ⟨rfl, hB⟩
      have A1_3 := Lib.hid (below_step A1_2.out hB)
      have HB3 := Lib.hid (below_step HB2.out hB)
      clear hB
      go_wp2_with fail
      refine ((iSumScale_any ys n HNY.out g c (-1) w3 (by omega) HSZ.out (HL.out.below A1_3.out)).mono fun _ _ h => TermsPost.gotO HE.out HNM.out rfl h).mono ?_
      rintro e w4 ⟨hB, gm, cm, rfl, hm⟩
      have A1_4 := Lib.hid (below_step A1_3.out hB)
      have HB4 := Lib.hid (below_step HB3.out hB)
      have HM := Lib.hid hm
      clear hm
      clear hB
      have A4_4 := Lib.hid (Below.refl w4.heap.size w4)
      go_wp2_with fail
      refine ((iSumCoef_any (txtTm ms) M HNR.out gm cm s w4 (by omega) HSM.out (by omega) (HM.out.below A4_4.out)).mono fun _ _ h => Ans.is h HY.out).mono ?_
      rintro e w5 ⟨rfl, hB⟩
      have A1_5 := Lib.hid (below_step A1_4.out hB)
      have A4_5 := Lib.hid (below_step A4_4.out hB)
      have HB5 := Lib.hid (below_step HB4.out hB)
      clear hB
      go_wp2_with fail
      go_ret
      exact ⟨rfl, HB5.out⟩
  · clear hl h8
    go_enter Try.func7, Try.ntmps7
    go_wp2_with fail
    go_ret
    exact ⟨rfl, Below.refl _ _⟩

theorem LeadPost.is {xs : List (Int × ByteArray)} {v : Value} {w w' : World} {e : Ending} (h : LeadPost xs w e w') (hv : leadV (leadOf xs) = v) : Below w.heap.size w w' ∧ e = .returned v := by rw [← hv]; exact h

set_option maxRecDepth 100000 in
set_option maxHeartbeats 2000000 in
theorem pLead_any (bs : List Nat) (a : Option Addr) (cap : Nat) (w : World) (hl : LiesB w a bs) (h8 : ∀ z ∈ bs, z ≤ 255) (hn : bs.length ≤ 9223372036854775807) (hcap : bs.length ≤ cap) :
    Calls Try.prog 8 #[.slice a bs.length cap] w (Ans (.bool true) w) := by
  by_cases h : bs.length ≤ 1048576
  · have HD := Lib.hid (dSumLead_any bs a cap w hn hcap h8 hl)
    clear h8 hl
    go_enter Try.func8, Try.ntmps8
    go_wp2_with fail
    refine HD.out.mono ?_
    rintro e w1 ⟨hB1, ys, g, n, c, rfl, hny, hn60, hsm, htl⟩
    have HB1 := Lib.hid hB1
    have A1_1 := Lib.hid (Below.refl w1.heap.size w1)
    have HL := Lib.hid htl
    have HNY := Lib.hid hny
    have HSZ := Lib.hid hsm.size
    clear hB1 htl hny
    cases ho : leadOf ys with
    | none =>
      have HV : Hid (leadV (leadOf ys) = .tuple #[.agg #[.int .i64 0, .string ⟨#[]⟩], .bool false]) := Lib.hid (by rw [ho]; rfl)
      clear ho hsm
      go_wp2_with fail
      refine ((iSumLead_any ys n HNY.out g c w1 (by omega) HSZ.out (HL.out.below A1_1.out)).mono fun _ _ h => LeadPost.is h HV.out).mono ?_
      rintro e w2 ⟨hB, rfl⟩
      have A1_2 := Lib.hid (below_step A1_1.out hB)
      have HB2 := Lib.hid (below_step HB1.out hB)
      clear hB
      go_wp2_with fail
      refine ((sSumLead_any ys n HNY.out g c (w2.alloc (.cells #[.int .i64 0, .string ⟨#[]⟩] 32 (0, 0))) (by omega) HSZ.out ((HL.out.below A1_2.out).below ((Below.refl _ _).alloc (Nat.le_refl _) _))).mono fun _ _ h => LeadPost.is h HV.out).mono ?_
      rintro e w3 ⟨hB, rfl⟩
      have HAL2 : Hid (Below w2.heap.size w2 (w2.alloc (.cells #[.int .i64 0, .string ⟨#[]⟩] 32 (0, 0)))) := Lib.hid ((Below.refl _ _).alloc (Nat.le_refl _) _)
      have hB0 := hB
      have hB := below_step HAL2.out hB
      have A1_3 := Lib.hid (below_step A1_2.out hB)
      have HB3 := Lib.hid (below_step HB2.out hB)
      obtain ⟨b0, b1, _, _⟩ := two_cells ((hB0.block _ (by simp)).trans (heap_alloc_new w2 (.cells #[.int .i64 0, .string ⟨#[]⟩] 32 (0, 0))))
      clear hB
      have hlt2 : w2.heap.size < w3.heap.size := by have := hB0.size; simp at this; omega
      clear hB0
      go_wp2_with fail
      go_ret
      exact ⟨rfl, HB3.out.alloc HB3.out.size _⟩
    | some y =>
      obtain ⟨x, s⟩ := y
      have HV : Hid (leadV (leadOf ys) = .tuple #[.agg #[.int .i64 x, .string s], .bool true]) := Lib.hid (by rw [ho]; rfl)
      obtain ⟨ps, hps⟩ : ∃ ps, sumOf ys = some ps := by
        cases hs : sumOf ys with
        | none => rw [leadOf_no (by rw [hs]; rfl)] at ho; cases ho
        | some ps => exact ⟨ps, rfl⟩
      have hn0 : 0 < ys.length := by
        cases ys with
        | nil => simp [leadOf] at ho
        | cons _ _ => simp
      have hy0 : ys[0] = (x, s) := by
        rw [leadOf_yes hn0 (by rw [hps]; rfl)] at ho
        exact Option.some.inj ho
      obtain ⟨hcf, t, hpt, hall⟩ := fnLead_told hps hn0
      rw [hy0] at hcf hpt
      have hss : s.size ≤ 2000 := by have := (hsm 0 hn0).1; rw [hy0] at this; exact this
      have HSM := Lib.hid hsm
      have HALL : Hid (∀ j (hj : j < ys.length), ∃ z : Int, orderOf (ys[j]).2.data.toList s.data.toList = some z ∧ z ≤ 0) := Lib.hid (fun j hj => by
        obtain ⟨u, hu, hle⟩ := hall j hj
        exact ⟨ordT u t, by simp [orderOf, hu, hpt, ordT], hle⟩)
      have HCF : Hid (Value.int .i64 (coefV ys s) = .int .i64 x) := Lib.hid (by rw [hcf])
      clear ho hps hy0 hcf hpt hall hn0 hsm
      go_wp2_with fail
      refine ((iSumLead_any ys n HNY.out g c w1 (by omega) HSZ.out (HL.out.below A1_1.out)).mono fun _ _ h => LeadPost.is h HV.out).mono ?_
      rintro e w2 ⟨hB, rfl⟩
      have A1_2 := Lib.hid (below_step A1_1.out hB)
      have HB2 := Lib.hid (below_step HB1.out hB)
      clear hB
      go_wp2_with fail
      refine ((sSumLead_any ys n HNY.out g c (w2.alloc (.cells #[.int .i64 x, .string s] 32 (0, 0))) (by omega) HSZ.out ((HL.out.below A1_2.out).below ((Below.refl _ _).alloc (Nat.le_refl _) _))).mono fun _ _ h => LeadPost.is h HV.out).mono ?_
      rintro e w3 ⟨hB, rfl⟩
      have HAL2 : Hid (Below w2.heap.size w2 (w2.alloc (.cells #[.int .i64 x, .string s] 32 (0, 0)))) := Lib.hid ((Below.refl _ _).alloc (Nat.le_refl _) _)
      have hB0 := hB
      have hB := below_step HAL2.out hB
      have A1_3 := Lib.hid (below_step A1_2.out hB)
      have HB3 := Lib.hid (below_step HB2.out hB)
      obtain ⟨b0, b1, _, _⟩ := two_cells ((hB0.block _ (by simp)).trans (heap_alloc_new w2 (.cells #[.int .i64 x, .string s] 32 (0, 0))))
      clear hB
      have hlt2 : w2.heap.size < w3.heap.size := by have := hB0.size; simp at this; omega
      clear hB0
      obtain ⟨w4, hw4⟩ : ∃ w4, w4 = w3.alloc (.cells #[.int .i64 x, .string s] 32 (0, 0)) := ⟨_, rfl⟩
      have hb4 : Below w3.heap.size w3 w4 := by rw [hw4]; exact (Below.refl _ _).alloc (Nat.le_refl _) _
      have q0 := keep1 hb4 b0
      have q1 := keep1 hb4 b1
      have HB4 := Lib.hid (below_step HB3.out hb4)
      have A1_4 := Lib.hid (below_step A1_3.out hb4)
      have HW4 := Lib.hid hw4
      clear hw4 hb4
      go_wp2_with fail
      rw [← HW4.out]
      go_loopw [8] (fun iv wr => ∃ i : Nat, i ≤ n ∧ iv = .int .i64 i ∧ Below w4.heap.size w4 wr) (fun iv _ => n - (intOf iv).toNat)
      case atStart => exact ⟨0, by omega, rfl, Below.refl _ _⟩
      case round =>
        obtain ⟨i, hi, rfl, hB⟩ := hrel
        have HBR := Lib.hid hB
        have r0 := keep1 hB q0
        have r1 := keep1 hB q1
        have hszr := hB.size
        have hlt4 : w2.heap.size < wr.heap.size := World.block_lt_of_cell? wr ⟨w2.heap.size, 0, none⟩ r0
        by_cases hlt : i < n
        · have hiy : i < ys.length := by rw [← HNY.out]; exact hlt
          obtain ⟨d1, d2⟩ := (HL.out.below (below_step A1_4.out hB)) i hiy
          obtain ⟨z, hz, hz0⟩ := HALL.out i hiy
          have hsi := (HSM.out i hiy).1
          obtain ⟨si, hs⟩ : ∃ si, si = (ys[i]).2 := ⟨_, rfl⟩
          rw [← hs] at d2 hz hsi
          have HZ : Hid (orderV (orderOf si.data.toList s.data.toList) = .tuple #[.int .i64 z, .bool true]) := Lib.hid (by rw [hz]; rfl)
          have e0 : decide (0 < z) = false := decide_eq_false (by omega)
          have e1 : ¬ 0 < z := by omega
          have i0 : (0 : Int) ≤ (i : Int) := by omega
          clear hz hz0 hs d1 hB
          go_wp2_with fail
          refine wp_region_held_drew (S := (fun w' => w'.cell? ⟨g, i * 2 + 1, none⟩ = some (.string si) ∧ w'.cell? ⟨w2.heap.size, 1, none⟩ = some (.string s))) (by kernel_rfl) (by exact ⟨d2, r1⟩) (fun hHeld => ?_)
          refine wpAnyH_take (i := 0) (oi := { dst := some 53, op := Op.move (Operand.tmp 3), type := 23, pos := "laws.go:553", after := #[], guard := none }) (v := ?_) rfl (by kernel_rfl) (by kernel_rfl) (by kernel_rfl) (fun _ _ _ h => h) (Or.inl ⟨by rfl, ?_⟩) (by assumption) ?_
          rotate_left
          · (intro w hSw; (try dsimp only at hSw); go_simp <;> with_reducible rfl)
          (try simp only [Act.put, List.setIfInBounds_toArray, List.set_cons_zero, List.set_cons_succ])
          refine wpAnyH_take (i := 1) (oi := { dst := some 54, op := Op.move (Operand.tmp 8), type := 3, pos := "laws.go:553", after := #[], guard := none }) (v := ?_) rfl (by kernel_rfl) (by kernel_rfl) (by kernel_rfl) (fun _ _ _ h => h) (Or.inl ⟨by rfl, ?_⟩) (by assumption) ?_
          rotate_left
          · (intro w hSw; (try dsimp only at hSw); go_simp <;> with_reducible rfl)
          (try simp only [Act.put, List.setIfInBounds_toArray, List.set_cons_zero, List.set_cons_succ])
          refine wpAnyH_take (i := 2) (oi := { dst := some 55, op := Op.indexAddr 23 (Operand.tmp 53) (Operand.tmp 54), type := 0, pos := "laws.go:553", after := #[{ on := 0, ground := Ground.data }, { on := 1, ground := Ground.data }], guard := none }) (v := ?_) rfl (by kernel_rfl) (by kernel_rfl) (by kernel_rfl) (fun _ _ _ h => h) (Or.inl ⟨by rfl, ?_⟩) (by assumption) ?_
          rotate_left
          · (intro w hSw; (try dsimp only at hSw); go_simp <;> with_reducible rfl)
          (try simp only [Act.put, List.setIfInBounds_toArray, List.set_cons_zero, List.set_cons_succ])
          refine wpAnyH_take (i := 3) (oi := { dst := some 56, op := Op.fieldAddr 32 (Operand.tmp 55) 1, type := 0, pos := "laws.go:553", after := #[{ on := 2, ground := Ground.data }], guard := none }) (v := ?_) rfl (by kernel_rfl) (by kernel_rfl) (by kernel_rfl) (fun _ _ _ h => h) (Or.inl ⟨by rfl, ?_⟩) (by assumption) ?_
          rotate_left
          · (intro w hSw; (try dsimp only at hSw); go_simp <;> with_reducible rfl)
          (try simp only [Act.put, List.setIfInBounds_toArray, List.set_cons_zero, List.set_cons_succ])
          refine wpAnyH_take (i := 4) (oi := { dst := some 57, op := Op.load 9 (Operand.tmp 56), type := 9, pos := "laws.go:553", after := #[{ on := 3, ground := Ground.data }], guard := none }) (v := ?_) rfl (by kernel_rfl) (by kernel_rfl) (by kernel_rfl) (fun _ _ _ h => h) (Or.inl ⟨by rfl, ?_⟩) (by assumption) ?_
          rotate_left
          · (intro w hSw; (try dsimp only at hSw); go_simp <;> with_reducible rfl)
          (try simp only [Act.put, List.setIfInBounds_toArray, List.set_cons_zero, List.set_cons_succ])
          refine wpAnyH_take (i := 5) (oi := { dst := some 58, op := Op.fieldAddr 32 (Operand.tmp 4) 1, type := 0, pos := "laws.go:553", after := #[], guard := none }) (v := ?_) rfl (by kernel_rfl) (by kernel_rfl) (by kernel_rfl) (fun _ _ _ h => h) (Or.inl ⟨by rfl, ?_⟩) (by assumption) ?_
          rotate_left
          · (intro w hSw; (try dsimp only at hSw); go_simp <;> with_reducible rfl)
          (try simp only [Act.put, List.setIfInBounds_toArray, List.set_cons_zero, List.set_cons_succ])
          refine wpAnyH_take (i := 6) (oi := { dst := some 59, op := Op.load 9 (Operand.tmp 58), type := 9, pos := "laws.go:553", after := #[{ on := 5, ground := Ground.data }], guard := none }) (v := ?_) rfl (by kernel_rfl) (by kernel_rfl) (by kernel_rfl) (fun _ _ _ h => h) (Or.inl ⟨by rfl, ?_⟩) (by assumption) ?_
          rotate_left
          · (intro w hSw; (try dsimp only at hSw); go_simp <;> with_reducible rfl)
          (try simp only [Act.put, List.setIfInBounds_toArray, List.set_cons_zero, List.set_cons_succ])
          refine wpAnyH_ready (rs := [7]) (by kernel_rfl) (by simp) ?_
          refine AllReadyH.cons (o := { dst := some 60, op := Op.call { callee := Callee.value (Operand.func 32), args := #[Operand.tmp 57, Operand.tmp 59], argTypes := #[9, 9] }, type := 43, pos := "laws.go:553", after := #[{ on := 4, ground := Ground.data }, { on := 6, ground := Ground.data }], guard := none }) rfl (fun K hK => ?_) AllReadyH.nil
          go_simp
          go_wp2_with fail
          refine ((iOrder_any si s _ (by omega) (by omega)).mono fun _ _ h => Ans.is h HZ.out).mono ?_
          rintro e w5 ⟨rfl, hB5⟩
          have hB5' : Below wr.heap.size wr w5 := (Below.refl _ _).drew.trans hB5
          have HB5 := Lib.hid hB5'
          have d3 := keep1 hB5' d2
          have r3 := keep1 hB5' r1
          clear hB5 hB5'
          go_wp2_with fail
          refine hK.out _ _ ?_ (fun hHeld => ?_)
          · exact ⟨d3, r3⟩
          clear hK K
          (try simp only [Act.put, List.setIfInBounds_toArray, List.set_cons_zero, List.set_cons_succ])
          refine wpAnyH_take (i := 8) (oi := { dst := some 52, op := Op.move (Operand.tmp 60), type := 43, pos := "laws.go:553", after := #[{ on := 7, ground := Ground.data }], guard := none }) (v := ?_) rfl (by kernel_rfl) (by kernel_rfl) (by kernel_rfl) (fun _ _ _ h => h) (Or.inl ⟨by rfl, ?_⟩) (by assumption) ?_
          rotate_left
          · (intro w hSw; (try dsimp only at hSw); go_simp <;> with_reducible rfl)
          (try simp only [Act.put, List.setIfInBounds_toArray, List.set_cons_zero, List.set_cons_succ])
          refine wpAnyH_take (i := 9) (oi := { dst := some 61, op := Op.extract (Operand.tmp 52) 0, type := 3, pos := "laws.go:553", after := #[{ on := 8, ground := Ground.data }], guard := none }) (v := ?_) rfl (by kernel_rfl) (by kernel_rfl) (by kernel_rfl) (fun _ _ _ h => h) (Or.inl ⟨by rfl, ?_⟩) (by assumption) ?_
          rotate_left
          · (intro w hSw; (try dsimp only at hSw); go_simp <;> with_reducible rfl)
          (try simp only [Act.put, List.setIfInBounds_toArray, List.set_cons_zero, List.set_cons_succ])
          refine wpAnyH_take (i := 10) (oi := { dst := some 62, op := Op.extract (Operand.tmp 52) 1, type := 4, pos := "laws.go:553", after := #[{ on := 8, ground := Ground.data }, { on := 11, ground := Ground.gcOnly Departure.lateStores }], guard := none }) (v := ?_) rfl (by kernel_rfl) (by kernel_rfl) (by kernel_rfl) (fun _ _ _ h => h) (Or.inl ⟨by rfl, ?_⟩) (by assumption) ?_
          rotate_left
          · (intro w hSw; (try dsimp only at hSw); go_simp <;> with_reducible rfl)
          (try simp only [Act.put, List.setIfInBounds_toArray, List.set_cons_zero, List.set_cons_succ])
          refine wpAnyH_take (i := 11) (oi := { dst := some 9, op := Op.assign (Operand.tmp 61), type := 3, pos := "laws.go:553", after := #[{ on := 9, ground := Ground.data }, { on := 7, ground := Ground.chain }, { on := 0, ground := Ground.phase }, { on := 1, ground := Ground.phase }, { on := 2, ground := Ground.phase }, { on := 3, ground := Ground.phase }, { on := 4, ground := Ground.phase }, { on := 5, ground := Ground.phase }, { on := 6, ground := Ground.phase }, { on := 7, ground := Ground.phase }, { on := 8, ground := Ground.phase }, { on := 9, ground := Ground.phase }, { on := 10, ground := Ground.textOnly Departure.lateStores }], guard := none }) (v := ?_) rfl (by kernel_rfl) (by kernel_rfl) (by kernel_rfl) (fun _ _ _ h => h) (Or.inl ⟨by rfl, ?_⟩) (by assumption) ?_
          rotate_left
          · (intro w hSw; (try dsimp only at hSw); go_simp <;> with_reducible rfl)
          (try simp only [Act.put, List.setIfInBounds_toArray, List.set_cons_zero, List.set_cons_succ])
          refine wpAnyH_take (i := 12) (oi := { dst := some 10, op := Op.assign (Operand.tmp 62), type := 4, pos := "laws.go:553", after := #[{ on := 10, ground := Ground.data }, { on := 11, ground := Ground.chain }, { on := 0, ground := Ground.phase }, { on := 1, ground := Ground.phase }, { on := 2, ground := Ground.phase }, { on := 3, ground := Ground.phase }, { on := 4, ground := Ground.phase }, { on := 5, ground := Ground.phase }, { on := 6, ground := Ground.phase }, { on := 7, ground := Ground.phase }, { on := 8, ground := Ground.phase }, { on := 9, ground := Ground.phase }, { on := 10, ground := Ground.phase }, { on := 11, ground := Ground.phase }], guard := none }) (v := ?_) rfl (by kernel_rfl) (by kernel_rfl) (by kernel_rfl) (fun _ _ _ h => h) (Or.inl ⟨by rfl, ?_⟩) (by assumption) ?_
          rotate_left
          · (intro w hSw; (try dsimp only at hSw); go_simp <;> with_reducible rfl)
          (try simp only [Act.put, List.setIfInBounds_toArray, List.set_cons_zero, List.set_cons_succ])
          refine wpAnyH_done (by kernel_rfl) ?_ _
          all_goals
            go_wp2_with fail
            go_roundw
            case rel => exact ⟨i + 1, by omega, by go_num, HBR.out.trans (HB5.out.mono HBR.out.size)⟩
            case measure => simp [intOf]; omega
        · clear hB
          go_wp2_with fail
          refine wp_region_held_drew (S := (fun w' => w'.cell? ⟨w2.heap.size, 0, none⟩ = some (.int .i64 x) ∧ w'.cell? ⟨w2.heap.size, 1, none⟩ = some (.string s))) (by kernel_rfl) (by exact ⟨r0, r1⟩) (fun hHeld => ?_)
          refine wpAnyH_take (i := 0) (oi := { dst := some 69, op := Op.move (Operand.tmp 3), type := 23, pos := "laws.go:558", after := #[], guard := none }) (v := ?_) rfl (by kernel_rfl) (by kernel_rfl) (by kernel_rfl) (fun _ _ _ h => h) (Or.inl ⟨by rfl, ?_⟩) (by assumption) ?_
          rotate_left
          · (intro w hSw; (try dsimp only at hSw); go_simp <;> with_reducible rfl)
          (try simp only [Act.put, List.setIfInBounds_toArray, List.set_cons_zero, List.set_cons_succ])
          refine wpAnyH_take (i := 1) (oi := { dst := some 70, op := Op.fieldAddr 32 (Operand.tmp 4) 1, type := 0, pos := "laws.go:558", after := #[], guard := none }) (v := ?_) rfl (by kernel_rfl) (by kernel_rfl) (by kernel_rfl) (fun _ _ _ h => h) (Or.inl ⟨by rfl, ?_⟩) (by assumption) ?_
          rotate_left
          · (intro w hSw; (try dsimp only at hSw); go_simp <;> with_reducible rfl)
          (try simp only [Act.put, List.setIfInBounds_toArray, List.set_cons_zero, List.set_cons_succ])
          refine wpAnyH_take (i := 2) (oi := { dst := some 71, op := Op.load 9 (Operand.tmp 70), type := 9, pos := "laws.go:558", after := #[{ on := 1, ground := Ground.data }], guard := none }) (v := ?_) rfl (by kernel_rfl) (by kernel_rfl) (by kernel_rfl) (fun _ _ _ h => h) (Or.inl ⟨by rfl, ?_⟩) (by assumption) ?_
          rotate_left
          · (intro w hSw; (try dsimp only at hSw); go_simp <;> with_reducible rfl)
          (try simp only [Act.put, List.setIfInBounds_toArray, List.set_cons_zero, List.set_cons_succ])
          refine wpAnyH_take (i := 4) (oi := { dst := some 73, op := Op.fieldAddr 32 (Operand.tmp 4) 0, type := 0, pos := "laws.go:558", after := #[], guard := none }) (v := ?_) rfl (by kernel_rfl) (by kernel_rfl) (by kernel_rfl) (fun _ _ _ h => h) (Or.inl ⟨by rfl, ?_⟩) (by assumption) ?_
          rotate_left
          · (intro w hSw; (try dsimp only at hSw); go_simp <;> with_reducible rfl)
          (try simp only [Act.put, List.setIfInBounds_toArray, List.set_cons_zero, List.set_cons_succ])
          refine wpAnyH_take (i := 5) (oi := { dst := some 74, op := Op.load 3 (Operand.tmp 73), type := 3, pos := "laws.go:558", after := #[{ on := 4, ground := Ground.data }], guard := none }) (v := ?_) rfl (by kernel_rfl) (by kernel_rfl) (by kernel_rfl) (fun _ _ _ h => h) (Or.inl ⟨by rfl, ?_⟩) (by assumption) ?_
          rotate_left
          · (intro w hSw; (try dsimp only at hSw); go_simp <;> with_reducible rfl)
          (try simp only [Act.put, List.setIfInBounds_toArray, List.set_cons_zero, List.set_cons_succ])
          refine wpAnyH_ready (rs := [3]) (by kernel_rfl) (by simp) ?_
          refine AllReadyH.cons (o := { dst := some 72, op := Op.call { callee := Callee.value (Operand.func 27), args := #[Operand.tmp 69, Operand.tmp 71], argTypes := #[23, 9] }, type := 3, pos := "laws.go:558", after := #[{ on := 0, ground := Ground.data }, { on := 2, ground := Ground.data }], guard := none }) rfl (fun K hK => ?_) AllReadyH.nil
          go_simp
          go_wp2_with fail
          refine ((iSumCoef_any ys n HNY.out g c s wr.drew (by omega) HSZ.out (by omega) (HL.out.below (below_step (below_step A1_4.out HBR.out) (Below.refl _ _).drew))).mono fun _ _ h => Ans.is h HCF.out).mono ?_
          rintro e w5 ⟨rfl, hB5⟩
          have hB5' : Below wr.heap.size wr w5 := (Below.refl _ _).drew.trans hB5
          have HB5 := Lib.hid hB5'
          have r2 := keep1 hB5' r0
          have r3 := keep1 hB5' r1
          clear hB5 hB5'
          go_wp2_with fail
          refine hK.out _ _ ?_ (fun hHeld => ?_)
          · exact ⟨r2, r3⟩
          clear hK K
          (try simp only [Act.put, List.setIfInBounds_toArray, List.set_cons_zero, List.set_cons_succ])
          refine wpAnyH_take (i := 6) (oi := { dst := some 75, op := Op.binOp BinOp.eql 3 (Operand.tmp 72) (Operand.tmp 74) 3, type := 4, pos := "laws.go:558", after := #[{ on := 3, ground := Ground.data }, { on := 5, ground := Ground.data }], guard := none }) (v := ?_) rfl (by kernel_rfl) (by kernel_rfl) (by kernel_rfl) (fun _ _ _ h => h) (Or.inl ⟨by rfl, ?_⟩) (by assumption) ?_
          rotate_left
          · (intro w hSw; (try dsimp only at hSw); go_simp <;> with_reducible rfl)
          (try simp only [Act.put, List.setIfInBounds_toArray, List.set_cons_zero, List.set_cons_succ])
          refine wpAnyH_take (i := 7) (oi := { dst := some 2, op := Op.assign (Operand.tmp 75), type := 4, pos := "laws.go:558", after := #[{ on := 6, ground := Ground.data }, { on := 3, ground := Ground.chain }, { on := 0, ground := Ground.phase }, { on := 1, ground := Ground.phase }, { on := 2, ground := Ground.phase }, { on := 3, ground := Ground.phase }, { on := 4, ground := Ground.phase }, { on := 5, ground := Ground.phase }, { on := 6, ground := Ground.phase }], guard := none }) (v := ?_) rfl (by kernel_rfl) (by kernel_rfl) (by kernel_rfl) (fun _ _ _ h => h) (Or.inl ⟨by rfl, ?_⟩) (by assumption) ?_
          rotate_left
          · (intro w hSw; (try dsimp only at hSw); go_simp <;> with_reducible rfl)
          (try simp only [Act.put, List.setIfInBounds_toArray, List.set_cons_zero, List.set_cons_succ])
          refine wpAnyH_done (by kernel_rfl) ?_ _
          all_goals
            go_wp2_with fail
            go_ret
            exact ⟨by first | rfl | simp, below_step (below_step HB4.out HBR.out) HB5.out⟩
  · clear hl h8
    go_enter Try.func8, Try.ntmps8
    go_wp2_with fail
    go_ret
    exact ⟨rfl, Below.refl _ _⟩

end Go.Proofs.Ytipodlckehodnaa
