/- What was put can be put back: FnPut. -/
import Derived.Test.YtfjodghnheliaaaKPPt
import Derived.Test.YtfjodghnheliaaaDrShape
import Derived.Test.YtfjodghnheliaaaKLawPl
import Derived.Test.YtfjodghnheliaaaKLawJn
import Derived.Test.YtfjodghnheliaaaPutS
namespace Go.Proofs.Ytfjodghnheliaaa
open Go.RowKit

theorem Ans.isQ {v v' : Value} {w w' : World} {e : Ending} (h : Ans v w e w') (hv : v = v') : Ans v' w e w' := by rw [← hv]; exact h

theorem plTxs_node (p s : ByteArray) : ∀ x ∈ plTxs p s, x.1 ≤ 100 := by
  intro x hx
  unfold plTxs plV at hx
  split at hx
  · rename_i y t hy ht
    have hn := (parse_some ht).2.2.2
    simp only [Option.getD_some, List.mem_map] at hx
    obtain ⟨z, hz, rfl⟩ := hx
    unfold plAll plUp at hz
    rw [List.mem_filterMap] at hz
    obtain ⟨k, hk, hzk⟩ := hz
    have hk2 : k < t.nodes := by simpa using hk
    have e : z.1 = k := by
      unfold plAt at hzk
      simp only [Option.bind_eq_some_iff, Option.map_eq_some_iff] at hzk
      obtain ⟨_, _, _, _, rfl⟩ := hzk
      rfl
    show z.1 ≤ 100
    omega
  · simp at hx

theorem leavesOf_le3 (s : List UInt8) : -1 ≤ leavesOf (parse s) ∧ leavesOf (parse s) ≤ 12 := by
  cases h : parse s with
  | none => simp [leavesOf]
  | some t => obtain ⟨_, _, hl, _⟩ := parse_some h; simp only [leavesOf]; omega

/-- Texts and a node are drawn. -/
def DrPut (w : World) (e : Ending) (w' : World) : Prop := Below w.heap.size w w' ∧ ∃ (p s y : ByteArray) (v : Int), e = .returned (.tuple #[.string p, .string s, .int .i64 v, .string y]) ∧ p.size ≤ 2000 ∧ s.size ≤ 2000 ∧ y.size ≤ 2000 ∧ -100 ≤ v ∧ v ≤ 100

set_option maxRecDepth 100000 in
set_option maxHeartbeats 4000000 in
theorem dPut_any (bs : List Nat) (a : Option Addr) (cap : Nat) (w : World) (hn : bs.length ≤ 9223372036854775807) (hcap : bs.length ≤ cap) (h8 : ∀ z ∈ bs, z ≤ 255) (hl : LiesB w a bs) :
    Calls Try.prog 21 #[.slice a bs.length cap] w (DrPut w) := by
  have HO := Lib.hid (l6Open_any bs a cap w hn hcap h8 hl)
  clear h8 hl
  go_enter Try.func21, Try.ntmps21
  go_wp2_with fail
  refine HO.out.mono ?_
  rintro e w1 ⟨rfl, hb1, hr1⟩
  have HX := Lib.hid (l91Pattern_any w.heap.size a cap (bs.take 2000) 0 w1 (by omega) hr1)
  have HB1 := Lib.hid hb1
  have hRw1 := hr1.cells.2.2.2
  clear hb1 hr1
  go_wp2_with fail
  refine HX.out.mono ?_
  rintro e w2 ⟨hg2, p, q, rfl, hpsz, hr2, hq⟩
  have HB2 := Lib.hid (below_over HB1.out hg2 (fun r e => by cases e; exact Nat.le_refl _))
  have HX2 := Lib.hid (l91Text_any w.heap.size a cap (bs.take 2000) 4 q w2 (by decide) (by omega) hr2)
  have hw2 := hg2.size
  clear hg2 hr2
  go_wp2_with fail
  refine HX2.out.mono ?_
  rintro e w3 ⟨hg3, s, q3, rfl, hssz, hr3, hq3⟩
  have hq3' : q3 ≤ q + 1 + 81 := hq3
  have HB3 := Lib.hid (below_over HB2.out hg3 (fun r e => by cases e; exact Nat.le_refl _))
  have HR3 := Lib.hid hr3
  have hw3 := hg3.size
  obtain ⟨tx, htx⟩ : ∃ tx, tx = plTxs p s := ⟨_, rfl⟩
  obtain ⟨bo, hbo⟩ : ∃ bo, bo = (plV p s).isSome := ⟨_, rfl⟩
  have hSP := sPlaces_any p s w3 (by omega) (by omega)
  have hok := (plTxs_ok p s).1
  have hnodes := plTxs_node p s
  rw [← htx, ← hbo] at hSP
  rw [← htx] at hok hnodes
  have HSP := Lib.hid hSP
  have HNB : Hid (∀ j (h : j < tx.length), (tx[j]).1 ≤ 100) := Lib.hid (fun j hj => hnodes _ (List.getElem_mem hj))
  clear hg3 hr3 htx hbo hSP hnodes hq3
  go_wp2_with fail
  refine HSP.out.mono ?_
  rintro e w4 ⟨hb4, va, n, c, rfl, hnl, hrd⟩
  have HB4 := Lib.hid (below_step HB3.out hb4)
  have HR4 := Lib.hid (HR3.out.grown (grownBy_below (grownBy_refl _ none) hb4) (fun _ e => by cases e))
  have HNL := Lib.hid hnl
  have HRD := Lib.hid hrd
  have hn100 : n ≤ 100 := by omega
  have hw4 := hb4.size
  obtain ⟨z, hz⟩ : ∃ z, z = leavesOf (parse p.data.toList) := ⟨_, rfl⟩
  have hzb := leavesOf_le3 p.data.toList
  have HN := Lib.hid (sLeaves_any p w4 (by omega))
  rw [← hz] at HN hzb
  clear hb4 hnl hrd hz hok
  go_wp2_with fail
  refine HN.out.mono ?_
  rintro e w5 ⟨rfl, hb5⟩
  have HB5 := Lib.hid (below_step HB4.out hb5)
  have HR5 := Lib.hid (HR4.out.grown (grownBy_below (grownBy_refl _ none) hb5) (fun _ e => by cases e))
  have HRD5 := Lib.hid (HRD.out.below (by decide) hb5)
  have hw5 := hb5.size
  clear hb5
  obtain ⟨M, hM, hM2, hMz⟩ : ∃ M : Nat, 1 ≤ M ∧ M ≤ 12 ∧ ((1 < z ∧ z = (M : Int)) ∨ (z ≤ 1 ∧ M = 1)) := by
    by_cases h : 1 < z
    · exact ⟨z.toNat, by omega, by omega, .inl ⟨h, by omega⟩⟩
    · exact ⟨1, by omega, by omega, .inr ⟨by omega, rfl⟩⟩
  have HSH := Lib.hid (l91Shape_any w.heap.size a cap (bs.take 2000) M M q3 w5 (Nat.le_refl _) hM (by omega) (by omega) HR5.out)
  rcases hMz with ⟨h1, rfl⟩ | ⟨h1, rfl⟩
  all_goals
    go_wp2_with fail
    refine HSH.out.mono ?_
    rintro e w6 ⟨hg6, t, lb, sa, sn, sc, q6, rfl, hrep, hwf, hlv, hnd, hrd6, hq6⟩
    have HB6 := Lib.hid (below_over HB5.out hg6 (fun r e => by cases e; exact Nat.le_refl _))
    have htl := text_length t
    have HTX := Lib.hid (l1Text_any _ t _ _ _ _ (Nat.le_refl _) hwf (by omega) hrep)
    have hpc6 : ∀ (g : Nat), va = some ⟨g, 0, none⟩ → g ≠ w.heap.size → ∀ j (h : j < tx.length), w6.cell? ⟨g, j * 2, none⟩ = some (.int .i64 (tx[j]).1) := fun g hg hne j hj => by
      obtain ⟨g', g2, c2, e1, e2, _, _⟩ := plE.get HRD5.out j hj
      rw [hg] at e1
      cases e1
      exact keeps_row hg6 (fun b => b ≠ w.heap.size) (fun b h => h) _ _ hne e2
    have HPC6 := Lib.hid hpc6
    have HR6 := Lib.hid hrd6
    have hw6 := hg6.size
    obtain ⟨y0, hy0⟩ : ∃ y0, y0 = t.text := ⟨_, rfl⟩
    rw [← hy0] at HTX htl
    have hsz : y0.length ≤ 2000 := by omega
    clear hg6 hrep hrd6 hy0 htl hpc6 hwf hlv hnd
    go_wp2_with fail
    refine HTX.out.mono ?_
    rintro e w7 ⟨rfl, hb7⟩
    have HB7 := Lib.hid (below_step HB6.out hb7)
    have HR7 := Lib.hid (HR6.out.grown (grownBy_below (grownBy_refl _ none) hb7) (fun _ e => by cases e))
    have HB67 := Lib.hid hb7
    have hw7 := hb7.size
    obtain ⟨y, hy⟩ : ∃ y : ByteArray, y = ⟨y0.toArray⟩ := ⟨_, rfl⟩
    have hysz : y.size ≤ 2000 := by rw [hy]; change y0.toArray.size ≤ 2000; simpa using hsz
    rw [← hy]
    have HP3 := Lib.hid (pick_any w.heap.size a cap q6 3 (bs.take 2000) w7 HR7.out (by omega) (by omega) (by omega))
    clear hb7 hy hsz
    by_cases hbn : bo = true ∧ 0 < n
    · obtain ⟨rfl, hn0⟩ := hbn
      have e1 : decide ((0 : Int) < (n : Int)) = true := decide_eq_true (by omega)
      have e2 : (0 : Int) < (n : Int) := by omega
      have HP6 := Lib.hid (pick_any w.heap.size a cap q6 6 (bs.take 2000) w7 HR7.out (by omega) (by omega) (by omega))
      go_wp2_with fail
      refine HP6.out.mono ?_
      rintro e w8 ⟨⟨x6, hx6, rfl⟩, hg8, hs8, hr8⟩
      have HB8' := Lib.hid (below_over HB7.out hg8 (fun r e => by cases e; exact Nat.le_refl _))
      by_cases hx0 : x6 = 0
      · subst hx0
        have HP9 := Lib.hid (pick_any w.heap.size a cap (q6 + 1) 3 (bs.take 2000) w8 hr8 (by omega) (by omega) (by omega))
        clear hg8 hs8 hr8
        go_wp2_with fail
        refine HP9.out.mono ?_
        rintro e w9 ⟨⟨x9, hx9, rfl⟩, hg9, hs9, hr9⟩
        have HB9 := Lib.hid (below_over HB8'.out hg9 (fun r e => by cases e; exact Nat.le_refl _))
        clear hg9 hs9 hr9
        go_wp2_with fail
        refine bodyPost_ret (v := .tuple #[.string p, .string s, .int .i64 x9, .string y]) (by simp [results, Try.results21, go_sem]) rfl ?_
        exact ⟨HB9.out, p, s, y, x9, rfl, hpsz, hssz, hysz, by omega, by omega⟩
      · have f1 : decide ((0 : Int) < (x6 : Int)) = true := decide_eq_true (by omega)
        have f2 : (0 : Int) < (x6 : Int) := by omega
        have hn0' : 0 < tx.length := by have := HNL.out; omega
        obtain ⟨gl, g2, c2, ev, ec, _, _⟩ := plE.get HRD5.out 0 hn0'
        have hglR : gl ≠ w.heap.size := fun e => by
          rw [e, Nat.zero_mul] at ec
          rw [HR5.out.cells.1] at ec
          cases ec
        have HPC := Lib.hid (fun j (h : j < tx.length) => keeps_row hg8 (fun b => b ≠ w.heap.size) (fun b h => h) _ _ hglR (keep1 HB67.out (HPC6.out gl ev hglR j h)))
        have hb8d : Below w8.heap.size w8 w8.drew := (Below.refl _ _).drew
        have HPC7 := Lib.hid (fun j (h : j < tx.length) => keep1 hb8d (HPC.out j h))
        have HB7 := Lib.hid (below_step HB8'.out hb8d)
        have HP7 := Lib.hid (pick_any w.heap.size a cap (q6 + 1) n (bs.take 2000) w8.drew (hr8.grown (grownBy_below (grownBy_refl w8 none) hb8d) (fun _ e => by cases e)) (by omega) (by omega) (by omega))
        subst ev
        clear hg8 hs8 hr8 hb8d hx0 ec
        go_wp2_with fail
        refine wp_region_held_drew (S := (fun w' => ∀ j (h : j < tx.length), w'.cell? ⟨gl, j * 2, none⟩ = some (.int .i64 (tx[j]).1))) (by kernel_rfl) (by exact HPC.out) (fun hHeld => ?_)
        refine wpAnyH_take (i := 0) (oi := { dst := some 41, op := Op.move (Operand.tmp 7), type := 9, pos := "l91_draw.go:297", after := #[], guard := none }) (v := ?_) rfl (by kernel_rfl) (by kernel_rfl) (by kernel_rfl) (fun _ _ _ h => h) (Or.inl ⟨by rfl, ?_⟩) (by assumption) ?_
        rotate_left
        · (intro w hSw; (try dsimp only at hSw); go_simp <;> with_reducible rfl)
        (try simp only [Act.put, List.setIfInBounds_toArray, List.set_cons_zero, List.set_cons_succ])
        refine wpAnyH_take (i := 1) (oi := { dst := some 42, op := Op.move (Operand.tmp 8), type := 9, pos := "l91_draw.go:297", after := #[{ on := 11, ground := Ground.gcOnly Departure.lateStores }], guard := none }) (v := ?_) rfl (by kernel_rfl) (by kernel_rfl) (by kernel_rfl) (fun _ _ _ h => h) (Or.inl ⟨by rfl, ?_⟩) (by assumption) ?_
        rotate_left
        · (intro w hSw; (try dsimp only at hSw); go_simp <;> with_reducible rfl)
        (try simp only [Act.put, List.setIfInBounds_toArray, List.set_cons_zero, List.set_cons_succ])
        refine wpAnyH_take (i := 2) (oi := { dst := some 43, op := Op.move (Operand.tmp 9), type := 41, pos := "l91_draw.go:297", after := #[{ on := 12, ground := Ground.gcOnly Departure.lateStores }], guard := none }) (v := ?_) rfl (by kernel_rfl) (by kernel_rfl) (by kernel_rfl) (fun _ _ _ h => h) (Or.inl ⟨by rfl, ?_⟩) (by assumption) ?_
        rotate_left
        · (intro w hSw; (try dsimp only at hSw); go_simp <;> with_reducible rfl)
        (try simp only [Act.put, List.setIfInBounds_toArray, List.set_cons_zero, List.set_cons_succ])
        refine wpAnyH_take (i := 3) (oi := { dst := some 44, op := Op.move (Operand.tmp 6), type := 60, pos := "l91_draw.go:297", after := #[], guard := none }) (v := ?_) rfl (by kernel_rfl) (by kernel_rfl) (by kernel_rfl) (fun _ _ _ h => h) (Or.inl ⟨by rfl, ?_⟩) (by assumption) ?_
        rotate_left
        · (intro w hSw; (try dsimp only at hSw); go_simp <;> with_reducible rfl)
        (try simp only [Act.put, List.setIfInBounds_toArray, List.set_cons_zero, List.set_cons_succ])
        refine wpAnyH_take (i := 4) (oi := { dst := some 45, op := Op.move (Operand.tmp 9), type := 41, pos := "l91_draw.go:297", after := #[], guard := none }) (v := ?_) rfl (by kernel_rfl) (by kernel_rfl) (by kernel_rfl) (fun _ _ _ h => h) (Or.inl ⟨by rfl, ?_⟩) (by assumption) ?_
        rotate_left
        · (intro w hSw; (try dsimp only at hSw); go_simp <;> with_reducible rfl)
        (try simp only [Act.put, List.setIfInBounds_toArray, List.set_cons_zero, List.set_cons_succ])
        refine wpAnyH_take (i := 5) (oi := { dst := some 46, op := Op.call { callee := Callee.builtin Builtin.len, args := #[Operand.tmp 45], argTypes := #[41] }, type := 3, pos := "l91_draw.go:297", after := #[{ on := 4, ground := Ground.data }], guard := none }) (v := ?_) rfl (by kernel_rfl) (by kernel_rfl) (by kernel_rfl) (fun _ _ _ h => h) (Or.inl ⟨by rfl, ?_⟩) (by assumption) ?_
        rotate_left
        · (intro w hSw; (try dsimp only at hSw); go_simp <;> with_reducible rfl)
        (try simp only [Act.put, List.setIfInBounds_toArray, List.set_cons_zero, List.set_cons_succ])
        refine wpAnyH_take (i := 10) (oi := { dst := some 51, op := Op.move (Operand.tmp 11), type := 9, pos := "l91_draw.go:297", after := #[{ on := 13, ground := Ground.gcOnly Departure.lateStores }], guard := none }) (v := ?_) rfl (by kernel_rfl) (by kernel_rfl) (by kernel_rfl) (fun _ _ _ h => h) (Or.inl ⟨by rfl, ?_⟩) (by assumption) ?_
        rotate_left
        · (intro w hSw; (try dsimp only at hSw); go_simp <;> with_reducible rfl)
        (try simp only [Act.put, List.setIfInBounds_toArray, List.set_cons_zero, List.set_cons_succ])
        refine wpAnyH_ready (rs := [6]) (by kernel_rfl) (by simp) ?_
        refine AllReadyH.cons (o := { dst := some 47, op := Op.call { callee := Callee.value (Operand.func 37), args := #[Operand.tmp 44, Operand.tmp 46], argTypes := #[60, 3] }, type := 3, pos := "l91_draw.go:297", after := #[{ on := 3, ground := Ground.data }, { on := 5, ground := Ground.data }], guard := none }) rfl (fun K hK => ?_) AllReadyH.nil
        go_simp
        go_wp2_with fail
        refine HP7.out.mono ?_
        rintro e w8 ⟨⟨x, hx, rfl⟩, hg8, hs8, hr8⟩
        have HB8 := Lib.hid (below_over HB7.out hg8 (fun r e => by cases e; exact Nat.le_refl _))
        have HPC8 := Lib.hid (fun j (h : j < tx.length) => keeps_row hg8 (fun b => b ≠ w.heap.size) (fun b h => h) _ _ hglR (HPC7.out j h))
        have x0 : (0 : Int) ≤ (x : Int) := by omega
        have hxy : x < tx.length := by rw [← HNL.out]; exact hx
        obtain ⟨nd, hnd⟩ : ∃ nd, nd = (tx[x]).1 := ⟨_, rfl⟩
        have hndb : nd ≤ 100 := by rw [hnd]; exact HNB.out x hxy
        have HND := Lib.hid hnd
        clear hg8 hs8 hr8 hnd
        go_wp2_with fail
        refine hK.out _ _ ?_ (fun hHeld => ?_)
        · exact HPC8.out
        clear hK K
        (try simp only [Act.put, List.setIfInBounds_toArray, List.set_cons_zero, List.set_cons_succ])
        refine wpAnyH_take (i := 7) (oi := { dst := some 48, op := Op.indexAddr 41 (Operand.tmp 43) (Operand.tmp 47), type := 0, pos := "l91_draw.go:297", after := #[{ on := 2, ground := Ground.data }, { on := 6, ground := Ground.data }, { on := 12, ground := Ground.gcOnly Departure.lateStores }], guard := none }) (v := ?_) rfl (by kernel_rfl) (by kernel_rfl) (by kernel_rfl) (fun _ _ _ h => h) (Or.inl ⟨by rfl, ?_⟩) (by assumption) ?_
        rotate_left
        · (intro w hSw; (try dsimp only at hSw); go_simp <;> with_reducible rfl)
        (try simp only [Act.put, List.setIfInBounds_toArray, List.set_cons_zero, List.set_cons_succ])
        refine wpAnyH_take (i := 8) (oi := { dst := some 49, op := Op.fieldAddr 47 (Operand.tmp 48) 0, type := 0, pos := "l91_draw.go:297", after := #[{ on := 7, ground := Ground.data }, { on := 12, ground := Ground.gcOnly Departure.lateStores }], guard := none }) (v := ?_) rfl (by kernel_rfl) (by kernel_rfl) (by kernel_rfl) (fun _ _ _ h => h) (Or.inl ⟨by rfl, ?_⟩) (by assumption) ?_
        rotate_left
        · (intro w hSw; (try dsimp only at hSw); go_simp <;> with_reducible rfl)
        (try simp only [Act.put, List.setIfInBounds_toArray, List.set_cons_zero, List.set_cons_succ])
        refine wpAnyH_take (i := 9) (oi := { dst := some 50, op := Op.load 3 (Operand.tmp 49), type := 3, pos := "l91_draw.go:297", after := #[{ on := 8, ground := Ground.data }, { on := 12, ground := Ground.gcOnly Departure.lateStores }], guard := none }) (v := ?_) rfl (by kernel_rfl) (by kernel_rfl) (by kernel_rfl) (fun _ _ _ h => h) (Or.inl ⟨by rfl, ?_⟩) (by assumption) ?_
        rotate_left
        · (intro w hSw; have hc := hSw x hxy; rw [← HND.out] at hc; clear hSw; go_simp <;> with_reducible rfl)
        (try simp only [Act.put, List.setIfInBounds_toArray, List.set_cons_zero, List.set_cons_succ])
        refine wpAnyH_take (i := 11) (oi := { dst := some 2, op := Op.assign (Operand.tmp 41), type := 9, pos := "l91_draw.go:297", after := #[{ on := 0, ground := Ground.data }, { on := 6, ground := Ground.chain }, { on := 0, ground := Ground.phase }, { on := 1, ground := Ground.textOnly Departure.lateStores }, { on := 2, ground := Ground.textOnly Departure.lateStores }, { on := 3, ground := Ground.textOnly Departure.lateStores }, { on := 4, ground := Ground.textOnly Departure.lateStores }, { on := 5, ground := Ground.textOnly Departure.lateStoresUnsure }, { on := 6, ground := Ground.textOnly Departure.lateStoresUnsure }, { on := 7, ground := Ground.textOnly Departure.lateStores }, { on := 8, ground := Ground.textOnly Departure.lateStores }, { on := 9, ground := Ground.textOnly Departure.lateStores }, { on := 10, ground := Ground.textOnly Departure.lateStores }], guard := none }) (v := ?_) rfl (by kernel_rfl) (by kernel_rfl) (by kernel_rfl) (fun _ _ _ h => h) (Or.inl ⟨by rfl, ?_⟩) (by assumption) ?_
        rotate_left
        · (intro w hSw; (try dsimp only at hSw); go_simp <;> with_reducible rfl)
        (try simp only [Act.put, List.setIfInBounds_toArray, List.set_cons_zero, List.set_cons_succ])
        refine wpAnyH_take (i := 12) (oi := { dst := some 3, op := Op.assign (Operand.tmp 42), type := 9, pos := "l91_draw.go:297", after := #[{ on := 1, ground := Ground.data }, { on := 11, ground := Ground.chain }, { on := 0, ground := Ground.phase }, { on := 1, ground := Ground.phase }, { on := 2, ground := Ground.textOnly Departure.lateStores }, { on := 3, ground := Ground.textOnly Departure.lateStores }, { on := 4, ground := Ground.textOnly Departure.lateStores }, { on := 5, ground := Ground.textOnly Departure.lateStoresUnsure }, { on := 6, ground := Ground.textOnly Departure.lateStoresUnsure }, { on := 7, ground := Ground.textOnly Departure.lateStores }, { on := 8, ground := Ground.textOnly Departure.lateStores }, { on := 9, ground := Ground.textOnly Departure.lateStores }, { on := 10, ground := Ground.textOnly Departure.lateStores }, { on := 11, ground := Ground.phase }], guard := none }) (v := ?_) rfl (by kernel_rfl) (by kernel_rfl) (by kernel_rfl) (fun _ _ _ h => h) (Or.inl ⟨by rfl, ?_⟩) (by assumption) ?_
        rotate_left
        · (intro w hSw; (try dsimp only at hSw); go_simp <;> with_reducible rfl)
        (try simp only [Act.put, List.setIfInBounds_toArray, List.set_cons_zero, List.set_cons_succ])
        refine wpAnyH_take (i := 13) (oi := { dst := some 4, op := Op.assign (Operand.tmp 50), type := 3, pos := "l91_draw.go:297", after := #[{ on := 9, ground := Ground.data }, { on := 12, ground := Ground.chain }, { on := 0, ground := Ground.phase }, { on := 1, ground := Ground.phase }, { on := 2, ground := Ground.phase }, { on := 3, ground := Ground.phase }, { on := 4, ground := Ground.phase }, { on := 5, ground := Ground.phase }, { on := 6, ground := Ground.phase }, { on := 7, ground := Ground.phase }, { on := 8, ground := Ground.phase }, { on := 9, ground := Ground.phase }, { on := 10, ground := Ground.textOnly Departure.lateStores }, { on := 11, ground := Ground.phase }, { on := 12, ground := Ground.phase }], guard := none }) (v := ?_) rfl (by kernel_rfl) (by kernel_rfl) (by kernel_rfl) (fun _ _ _ h => h) (Or.inl ⟨by rfl, ?_⟩) (by assumption) ?_
        rotate_left
        · (intro w hSw; (try dsimp only at hSw); go_simp <;> with_reducible rfl)
        (try simp only [Act.put, List.setIfInBounds_toArray, List.set_cons_zero, List.set_cons_succ])
        refine wpAnyH_take (i := 14) (oi := { dst := some 5, op := Op.assign (Operand.tmp 51), type := 9, pos := "l91_draw.go:297", after := #[{ on := 10, ground := Ground.data }, { on := 13, ground := Ground.chain }, { on := 0, ground := Ground.phase }, { on := 1, ground := Ground.phase }, { on := 2, ground := Ground.phase }, { on := 3, ground := Ground.phase }, { on := 4, ground := Ground.phase }, { on := 5, ground := Ground.phase }, { on := 6, ground := Ground.phase }, { on := 7, ground := Ground.phase }, { on := 8, ground := Ground.phase }, { on := 9, ground := Ground.phase }, { on := 10, ground := Ground.phase }, { on := 11, ground := Ground.phase }, { on := 12, ground := Ground.phase }, { on := 13, ground := Ground.phase }], guard := none }) (v := ?_) rfl (by kernel_rfl) (by kernel_rfl) (by kernel_rfl) (fun _ _ _ h => h) (Or.inl ⟨by rfl, ?_⟩) (by assumption) ?_
        rotate_left
        · (intro w hSw; (try dsimp only at hSw); go_simp <;> with_reducible rfl)
        (try simp only [Act.put, List.setIfInBounds_toArray, List.set_cons_zero, List.set_cons_succ])
        refine wpAnyH_done (by kernel_rfl) ?_ _
        all_goals
          go_wp2_with fail
          refine bodyPost_ret (v := .tuple #[.string p, .string s, .int .i64 nd, .string y]) (by simp [results, Try.results21, go_sem]) rfl ?_
          exact ⟨HB8.out, p, s, y, nd, rfl, hpsz, hssz, hysz, by omega, by omega⟩
    · have hcase : bo = false ∨ (bo = true ∧ n = 0) := by
        cases bo with
        | false => exact .inl rfl
        | true => exact .inr ⟨rfl, by simp at hbn; omega⟩
      clear hbn
      rcases hcase with rfl | ⟨rfl, hn0⟩
      · go_wp2_with fail
        refine HP3.out.mono ?_
        rintro e w9 ⟨⟨x9, hx9, rfl⟩, hg9, hs9, hr9⟩
        have HB9 := Lib.hid (below_over HB7.out hg9 (fun r e => by cases e; exact Nat.le_refl _))
        clear hg9 hs9 hr9
        go_wp2_with fail
        refine bodyPost_ret (v := .tuple #[.string p, .string s, .int .i64 x9, .string y]) (by simp [results, Try.results21, go_sem]) rfl ?_
        exact ⟨HB9.out, p, s, y, x9, rfl, hpsz, hssz, hysz, by omega, by omega⟩
      · have e1 : decide ((0 : Int) < (n : Int)) = false := decide_eq_false (by omega)
        have e2 : ¬ (0 : Int) < (n : Int) := by omega
        have e3 : ¬ 0 < n := by omega
        clear hn0
        go_wp2_with fail
        refine HP3.out.mono ?_
        rintro e w9 ⟨⟨x9, hx9, rfl⟩, hg9, hs9, hr9⟩
        have HB9 := Lib.hid (below_over HB7.out hg9 (fun r e => by cases e; exact Nat.le_refl _))
        clear hg9 hs9 hr9
        go_wp2_with fail
        refine bodyPost_ret (v := .tuple #[.string p, .string s, .int .i64 x9, .string y]) (by simp [results, Try.results21, go_sem]) rfl ?_
        exact ⟨HB9.out, p, s, y, x9, rfl, hpsz, hssz, hysz, by omega, by omega⟩

set_option maxRecDepth 100000 in
set_option maxHeartbeats 2000000 in
theorem pPut_any (bs : List Nat) (a : Option Addr) (cap : Nat) (w : World) (hl : LiesB w a bs) (h8 : ∀ z ∈ bs, z ≤ 255) (hn : bs.length ≤ 9223372036854775807) (hcap : bs.length ≤ cap) :
    Calls Try.prog 6 #[.slice a bs.length cap] w (Ans (.bool true) w) := by
  by_cases h : bs.length ≤ 1048576
  · have HD := Lib.hid (dPut_any bs a cap w hn hcap h8 hl)
    clear h8 hl
    go_enter Try.func6, Try.ntmps6
    go_wp2_with fail
    refine HD.out.mono ?_
    rintro e w1 ⟨hB1, p, s, y, v, rfl, hp, hs, hy, hv1, hv2⟩
    have HB1 := Lib.hid hB1
    have A1_1 := Lib.hid (Below.refl w1.heap.size w1)
    clear hB1
    obtain ⟨o, f, hv⟩ := putV_is p s y v
    have HV := Lib.hid hv
    cases f with
    | false =>
      clear hv
      go_wp2_with fail
      refine ((iPut_any p s y v w1 (by omega) (by omega) (by omega) (by omega)).mono fun _ _ h => Ans.isQ h HV.out).mono ?_
      rintro e w2 ⟨rfl, hB⟩
      have A1_2 := Lib.hid (below_step A1_1.out hB)
      have HB2 := Lib.hid (below_step HB1.out hB)
      clear hB
      go_wp2_with fail
      refine ((sPut_any p s y v w2 (by omega) (by omega) (by omega) (by omega)).mono fun _ _ h => Ans.isQ h HV.out).mono ?_
      rintro e w3 ⟨rfl, hB⟩
      have A1_3 := Lib.hid (below_step A1_2.out hB)
      have HB3 := Lib.hid (below_step HB2.out hB)
      clear hB
      go_wp2_with fail
      go_ret
      exact ⟨rfl, HB3.out⟩
    | true =>
      obtain ⟨hos, hlv, hback⟩ := put_told hv
      obtain ⟨m, hm⟩ : ∃ m, m = leavesOf (parse s.data.toList) := ⟨_, rfl⟩
      have HL1 : Hid (Value.int .i64 (leavesOf (parse o.data.toList)) = .int .i64 m) := Lib.hid (by rw [hlv, hm])
      have HL2 : Hid (Value.int .i64 (leavesOf (parse s.data.toList)) = .int .i64 m) := Lib.hid (by rw [hm])
      obtain ⟨x, g, hx⟩ := putV_is y o p v
      have HX := Lib.hid hx
      have hcase : (y = ⟨#[42]⟩) ∨ (y ≠ ⟨#[42]⟩ ∧ g = true ∧ x = s) := by
        rcases hback with h | ⟨h, h2⟩
        · exact .inl h
        · rw [h2] at hx
          simp only [Value.tuple.injEq, Array.mk.injEq, List.cons.injEq, Value.string.injEq, Value.bool.injEq, and_true] at hx
          exact .inr ⟨h, hx.2.symm, hx.1.symm⟩
      clear hv hlv hm hback hx
      go_wp2_with fail
      refine ((iPut_any p s y v w1 (by omega) (by omega) (by omega) (by omega)).mono fun _ _ h => Ans.isQ h HV.out).mono ?_
      rintro e w2 ⟨rfl, hB⟩
      have A1_2 := Lib.hid (below_step A1_1.out hB)
      have HB2 := Lib.hid (below_step HB1.out hB)
      clear hB
      go_wp2_with fail
      refine ((sPut_any p s y v w2 (by omega) (by omega) (by omega) (by omega)).mono fun _ _ h => Ans.isQ h HV.out).mono ?_
      rintro e w3 ⟨rfl, hB⟩
      have A1_3 := Lib.hid (below_step A1_2.out hB)
      have HB3 := Lib.hid (below_step HB2.out hB)
      clear hB
      go_wp2_with fail
      refine ((iPut_any y o p v w3 (by omega) (by omega) (by omega) (by omega)).mono fun _ _ h => Ans.isQ h HX.out).mono ?_
      rintro e w4 ⟨rfl, hB⟩
      have A1_4 := Lib.hid (below_step A1_3.out hB)
      have HB4 := Lib.hid (below_step HB3.out hB)
      clear hB
      go_wp2_with fail
      refine ((iLeaves_any o w4 (by omega)).mono fun _ _ h => Ans.isQ h HL1.out).mono ?_
      rintro e w5 ⟨rfl, hB⟩
      have A1_5 := Lib.hid (below_step A1_4.out hB)
      have HB5 := Lib.hid (below_step HB4.out hB)
      clear hB
      go_wp2_with fail
      refine ((iLeaves_any s w5 (by omega)).mono fun _ _ h => Ans.isQ h HL2.out).mono ?_
      rintro e w6 ⟨rfl, hB⟩
      have A1_6 := Lib.hid (below_step A1_5.out hB)
      have HB6 := Lib.hid (below_step HB5.out hB)
      clear hB
      rcases hcase with rfl | ⟨hy, rfl, rfl⟩
      · skip
        go_wp2_with fail
        go_ret
        exact ⟨rfl, HB6.out⟩
      · have hq : (y.toList == [42]) = false := by
          refine beq_false_of_ne (fun h => hy ?_)
          rw [ByteArray.toList_eq] at h
          obtain ⟨⟨l⟩⟩ := y
          simp only at h
          rw [h]
        go_wp2_with fail
        go_ret
        exact ⟨rfl, HB6.out⟩
  · clear hl h8
    go_enter Try.func6, Try.ntmps6
    go_wp2_with fail
    go_ret
    exact ⟨rfl, Below.refl _ _⟩

end Go.Proofs.Ytfjodghnheliaaa
