/- The leaves below each node, by the program; lists of them searched. -/
import Derived.Test.YtbbkaephlojalaaFaceI
import Derived.Test.YtbbkaephlojalaaRow
import Derived.Maps.AppendAt
import Derived.Laws.StructEq
import Derived.Deep.QuietTactic
import Derived.BigQuiet
namespace Go.Proofs.Ytbbkaephlojalaa
open Go.RowKit

/-- Runs as cells. -/
def runCells (rs : List (Nat × Nat)) : List Value := rs.flatMap fun r => [.int .i64 (r.1 : Int), .int .i64 (r.2 : Int)]
theorem runCells_append (a b : List (Nat × Nat)) : runCells (a ++ b) = runCells a ++ runCells b := by simp [runCells]
theorem runCells_cons (r : Nat × Nat) (b : List (Nat × Nat)) : runCells (r :: b) = [.int .i64 (r.1 : Int), .int .i64 (r.2 : Int)] ++ runCells b := by simp [runCells]
theorem runCells_length : ∀ (a : List (Nat × Nat)), (runCells a).length = a.length * 2
  | [] => rfl
  | r :: a => by rw [runCells_cons, List.length_append, runCells_length a, List.length_cons]; simp; omega
theorem runCells_one (a : List (Nat × Nat)) : ∀ u ∈ runCells a, u.oneCell' = true := by
  intro u hu
  simp only [runCells, List.mem_flatMap] at hu
  obtain ⟨p, _, hu⟩ := hu
  simp only [List.mem_cons, List.not_mem_nil, or_false] at hu
  rcases hu with rfl | rfl <;> rfl
theorem runCells_get : ∀ (a : List (Nat × Nat)) (j : Nat) (h : j < a.length), (runCells a)[j * 2]? = some (.int .i64 (a[j].1 : Int)) ∧ (runCells a)[j * 2 + 1]? = some (.int .i64 (a[j].2 : Int))
  | [], _, h => by simp at h
  | r :: a, 0, _ => by rw [runCells_cons]; simp
  | r :: a, j + 1, h => by
    have ih := runCells_get a j (by simpa using h)
    rw [runCells_cons, List.getElem?_append_right (by simp; omega), List.getElem?_append_right (by simp; omega)]
    simp only [List.length_cons, List.length_nil, List.getElem_cons_succ]
    rw [show (j + 1) * 2 - (0 + 1 + 1) = j * 2 by omega, show (j + 1) * 2 + 1 - (0 + 1 + 1) = j * 2 + 1 by omega]
    exact ih

/-- A new list of runs is handed back. -/
def RunsPost (rs : List (Nat × Nat)) (w : World) (e : Ending) (w' : World) : Prop :=
  Below w.heap.size w w' ∧ ∃ g cap, e = .returned (.slice (some ⟨g, 0, none⟩) rs.length cap) ∧ w'.ownsRow w.heap.size 49 2 (.slice (some ⟨g, 0, none⟩) rs.length cap) rs.length (runCells rs)

theorem infoRun : (Try.prog.info? 49).map (fun i => (i.zero, i.size, i.bytes)) = some (some (.agg #[.int .i64 0, .int .i64 0]), 2, 16) := by kernel_rfl

theorem runsL_take {ks : List T} {k a : Nat} (h : k < ks.length) : T.runsL a (ks.take (k + 1)) = T.runsL a (ks.take k) ++ (ks[k]).runs (a + T.leavesL (ks.take k)) := by
  rw [List.take_succ_eq_append_getElem h, runsL_append]; simp [T.runsL]

set_option maxRecDepth 100000 in
set_option maxHeartbeats 2000000 in
theorem leafRuns_any (n : Nat) : ∀ (t : T) (ty : TypeId) (ad : Addr) (a : Nat) (z : Int) (w : World) (P : Nat → Prop), SizeOf.sizeOf t ≤ n → t.wf → z = a → a + t.leaves ≤ 999999 → t.nodes ≤ 999999 → RepI w P t ty ad →
    Calls Try.prog 27 #[.iface ty (.pointer (some ad)), .int .i64 z] w (RunsPost (t.runs a) w) := by
  induction n with
  | zero => intro t ty ad a z w P h; cases t <;> simp at h <;> omega
  | succ n ih =>
    intro t ty ad a z w P hn hwf hz0 hlv hnd hr
    subst hz0
    have hR0 : (w.alloc (.cells #[] 49)).ownsRow w.heap.size 49 2 (.slice (some ⟨w.heap.size, 0, none⟩) 0 0) 0 (runCells []) := World.ownsRow_made w #[] 0 (Nat.le_refl _) (by simp [maxLen]) rfl
    have R0 := Lib.hid hR0
    clear hR0
    cases t with
    | leaf =>
      rw [RepI] at hr
      subst hr
      have hta := fun v w => assert_leaf v w
      go_enter Try.func27, Try.ntmps27
      go_wp2_with fail
      go_ret
      exact ⟨(Below.refl _ _).alloc (Nat.le_refl _) _, _, _, rfl, by rw [T.runs]; exact R0.out⟩
    | node c ks =>
      have HRW := Lib.hid hr
      have HWF := Lib.hid hwf
      rw [RepI] at hr
      obtain ⟨rfl, b, g, cap, rfl, hPb, hPg, h0, h1, h6, hL⟩ := hr
      rw [T.wf] at hwf
      rw [T.leaves] at hlv
      rw [T.nodes] at hnd
      have HW := Lib.hid hwf
      have HL := Lib.hid hL
      obtain ⟨i0, hi0, hz, hzs, hzb⟩ := info_parts infoRun
      have hta := fun v w => assert_node v w
      obtain ⟨S, hS⟩ : ∃ S, S = 0 + T.leavesL ks := ⟨_, rfl⟩
      have HN := Lib.hid (nodeLeaves_any _ c ks _ _ (w.alloc (.cells #[] 49)) P (Nat.le_refl _) hwf.2.2.2.2 (by omega) (HRW.out.below HWF.out ((Below.refl _ _).alloc (Nat.le_refl _) _)))
      rw [← hS] at HN
      have hSb : S ≤ 1000000 := by omega
      have haS : a + S ≤ 1000000 := by omega
      have HS := Lib.hid hS
      have h1' : (w.alloc (.cells #[] 49)).cell? ⟨b, 1, none⟩ = some (.slice (some ⟨g, 0, none⟩) ks.length cap) := keep1 ((Below.refl _ _).alloc (Nat.le_refl _) _) h1
      have hlb := World.block_lt_of_cell? w _ h1
      simp only at hlb
      have H1 := Lib.hid h1
      clear hL hwf hS h0 h1
      go_enter Try.func27, Try.ntmps27
      go_wp2_with fail
      refine HN.out.mono ?_
      rintro e w1 ⟨rfl, rfl⟩
      go_wp2_with (at_builtin; refine wpList_append_own_at _ rfl _ _ 46 rfl w.heap.size 49 i0 (.agg #[.int .i64 0, .int .i64 0]) 2 16 Try.underlying46 hi0 hz hzs hzb rfl (by decide) (.slice (some ⟨w.heap.size, 0, none⟩) 0 0) 0 (runCells []) rfl (R0.out.alloc _) ⟨w.heap.size + 1, 0, none⟩ 1 1 [.int .i64 (a : Int), .int .i64 ((a : Int) + S)] rfl rfl (cells_two (by simp) _ _) (by simp [Value.oneCell']) (by unfold maxLen; omega) (by omega) (by simp; omega) ?_; intro v3 w3 hown3 hg3 hnil3 hat3; obtain ⟨g3, cap3, rfl, _, _, _⟩ := owns_some hown3 (fun e => by have := hnil3.1 e; simp at this); have hB3 : Below w.heap.size w w3 := (((Below.refl _ _).alloc (Nat.le_refl _) _).alloc (by simp) _).grown hg3 (by simp; omega) (fun q e => by have := ((R0.out.alloc (.cells #[.int .i64 (a : Int), .int .i64 ((a : Int) + S)] 49)).lt q e).1; omega); have c1 := keep1 hB3 H1.out; have HB3 := Lib.hid hB3; have HO3 := Lib.hid hown3; clear hown3 hg3 hnil3 hat3 hB3)
      have HR1 : Hid (w3.ownsRow w.heap.size 49 2 (.slice (some ⟨g3, 0, none⟩) 1 cap3) 1 (runCells [(a, a + T.leavesL ks)])) := Lib.hid (by
        have h := HO3.out
        have e : (runCells [] ++ [Value.int .i64 (a : Int), .int .i64 ((a : Int) + S)]) = runCells [(a, a + T.leavesL ks)] := by
          rw [runCells_cons, HS.out]; simp [runCells]
        rw [e] at h
        exact h)
      go_loopw [1, 5, 28] (fun av v i wr => ∃ (k gg cc M : Nat), k ≤ ks.length ∧ av = .int .i64 ((a + T.leavesL (ks.take k) : Nat) : Int) ∧ i = .int .i64 k ∧ v = .slice (some ⟨gg, 0, none⟩) M cc ∧ M = ((a, a + T.leavesL ks) :: T.runsL a (ks.take k)).length ∧
          wr.ownsRow w.heap.size 49 2 (.slice (some ⟨gg, 0, none⟩) M cc) M (runCells ((a, a + T.leavesL ks) :: T.runsL a (ks.take k))) ∧ Below w.heap.size w wr) (fun _ _ i _ => ks.length - (intOf i).toNat)
      case atStart => exact ⟨0, g3, cap3, 1, Nat.zero_le _, by simp [T.leavesL], rfl, rfl, by simp [T.runsL], by simpa [T.runsL] using HR1.out, HB3.out⟩
      case round =>
        obtain ⟨k, gg, cc, M, hk', rfl, rfl, rfl, hM, hown, hB⟩ := hrel
        have HO := Lib.hid hown
        have HM := Lib.hid hM
        have hMl : M ≤ 1000000 := by
          rw [hM, List.length_cons, runsL_length]
          have := nodesL_take_le (ks := ks) k
          omega
        have hsw := hB.size
        obtain ⟨A, hA⟩ : ∃ A, A = a + T.leavesL (ks.take k) := ⟨_, rfl⟩
        rw [← hA]
        have HA := Lib.hid hA
        clear hown hM hA
        by_cases hlt : k < ks.length
        · obtain ⟨ty', a', d1, d2⟩ := HL.out.get k hlt
          rw [Nat.zero_add] at d1
          have hwk := wfL_get HW.out.2.2.2.2 k hlt
          have hd : SizeOf.sizeOf ks[k] < SizeOf.sizeOf ks := List.sizeOf_lt_of_mem (List.getElem_mem hlt)
          simp only [T.node.sizeOf_spec] at hn
          have d1' : wr.cell? ⟨g, k, none⟩ = some (.iface ty' (.pointer (some a'))) := keep1 hB d1
          have hle := leavesL_take_le (ks := ks) (k + 1)
          have hln := nodesL_take_le (ks := ks) (k + 1)
          rw [leavesL_take hlt] at hle
          rw [nodesL_take hlt] at hln
          have hAA := HA.out
          have HI := Lib.hid (ih ks[k] ty' a' A ((A : Nat) : Int) wr P (by omega) hwk rfl (by omega) (by omega) (d2.below hwk hB))
          have hql := runs_length ks[k] A
          obtain ⟨qs, hqs⟩ : ∃ qs, qs = (ks[k]).runs A := ⟨_, rfl⟩
          rw [← hqs] at HI hql
          obtain ⟨N, hN⟩ : ∃ N, N = qs.length := ⟨_, rfl⟩
          have HQ := Lib.hid hqs
          have HQN := Lib.hid hN
          have hNl : N ≤ 1000000 := by omega
          have hMN : M + N ≤ 1000000 := by
            have h := HM.out
            rw [List.length_cons, runsL_length] at h
            have := nodesL_take_le (ks := ks) (k + 1)
            rw [nodesL_take hlt] at this
            omega
          have HI' : Hid (Calls Try.prog 27 #[.iface ty' (.pointer (some a')), .int .i64 ((A : Nat) : Int)] wr (fun e w' => Below wr.heap.size wr w' ∧ ∃ g cap, e = .returned (.slice (some ⟨g, 0, none⟩) N cap) ∧ w'.ownsRow wr.heap.size 49 2 (.slice (some ⟨g, 0, none⟩) N cap) N (runCells qs))) := Lib.hid (by rw [hN]; exact HI.out)
          obtain ⟨B, hBk⟩ : ∃ B : Nat, B = (ks[k]).leaves := ⟨_, rfl⟩
          have hBl : A + B ≤ 1000000 := by omega
          have HBK := Lib.hid hBk
          have HX : Hid (A + B = a + T.leavesL (ks.take (k + 1)) ∧ (a, a + T.leavesL ks) :: T.runsL a (ks.take (k + 1)) = ((a, a + T.leavesL ks) :: T.runsL a (ks.take k)) ++ qs) := Lib.hid ⟨by rw [leavesL_take hlt, hBk, HA.out]; omega, by rw [runsL_take hlt, ← HA.out, ← HQ.out]; rfl⟩
          have hkind := d2.kind
          have HD2 := Lib.hid d2
          have HWK := Lib.hid hwk
          have hlk : (ks[k]).leaves < 1000000 := by omega
          have HLK := Lib.hid hlk
          clear ih d1 d2 hd hqs hql hle hln hAA hN hBk hwk hlk
          rcases hkind with ⟨ek, rfl⟩ | ⟨c', ks', ek, rfl⟩
          · have HLV : Hid (∀ V, Below w.heap.size w V → Calls Try.prog 80 #[.pointer (some a')] V fun e w' => e = .returned (.int .i64 (B : Int)) ∧ V = w') := Lib.hid (fun V _ => by
              have := leafLeaves_any a' V
              rw [HBK.out, ek, T.leaves]; exact this)
            clear ek
            go_wp2_with fail
            refine HI'.out.mono ?_
            rintro e w2 ⟨hb2, g2, cap2, rfl, hown2⟩
            have HO1 := Lib.hid (owns_below HO.out hb2)
            have hs2 := hb2.size
            have HO2 := Lib.hid hown2
            clear hown2
            go_wp2_with (at_builtin; refine wpList_append_own_at _ rfl _ _ 46 rfl w.heap.size 49 i0 (.agg #[.int .i64 0, .int .i64 0]) 2 16 Try.underlying46 hi0 hz hzs hzb rfl (by decide) (.slice (some ⟨gg, 0, none⟩) M cc) M (runCells ((a, a + T.leavesL ks) :: T.runsL a (ks.take k))) rfl HO1.out ⟨g2, 0, none⟩ N cap2 (runCells qs) rfl (by rw [runCells_length, HQN.out]) (HO2.out.cells (g := g2) rfl) (runCells_one _) (by unfold maxLen; omega) (by omega) (by omega) ?_; intro v3 w3 hown3 hg3 hnil3 hat3; obtain ⟨g3, cap3, rfl, _, _, _⟩ := owns_some hown3 (fun e => by have := hnil3.1 e; simp at this))
            have HO3 := Lib.hid hown3
            have HB3 := Lib.hid (((hB.trans (hb2.mono hsw)).grown hg3 (by omega) (fun q e => (HO1.out.lt q e).1)))
            have HLC := Lib.hid (HLV.out w3 HB3.out)
            clear hown3 hg3 hnil3 hat3
            go_wp2_with fail
            refine HLC.out.mono ?_
            rintro e w4 ⟨rfl, rfl⟩
            go_wp2_with fail
            go_roundw
            case rel =>
              refine ⟨k + 1, g3, cap3, M + N, by omega, ?_, by go_num, rfl, ?_, ?_, HB3.out⟩
              · rw [← HX.out.1]; go_num
              · rw [HX.out.2, List.length_append, ← HM.out, ← HQN.out]
              · rw [HX.out.2, runCells_append]; exact HO3.out
            case measure => simp [intOf]; omega
          · have HLV : Hid (∀ V, Below w.heap.size w V → Calls Try.prog 43 #[.pointer (some a')] V fun e w' => e = .returned (.int .i64 (B : Int)) ∧ V = w') := Lib.hid (fun V hb => by
              have hd2 := HD2.out
              have hwk := HWK.out
              have hlk := HLK.out
              have hbk := HBK.out
              rw [ek] at hd2 hwk hlk hbk
              have hw5 := hwk
              rw [T.wf] at hw5
              rw [T.leaves] at hlk hbk
              have := nodeLeaves_any _ c' ks' _ a' V P (Nat.le_refl _) hw5.2.2.2.2 hlk (hd2.below hwk hb)
              rw [hbk]
              rw [Nat.zero_add] at this
              exact this)
            clear ek
            go_wp2_with fail
            refine HI'.out.mono ?_
            rintro e w2 ⟨hb2, g2, cap2, rfl, hown2⟩
            have HO1 := Lib.hid (owns_below HO.out hb2)
            have hs2 := hb2.size
            have HO2 := Lib.hid hown2
            clear hown2
            go_wp2_with (at_builtin; refine wpList_append_own_at _ rfl _ _ 46 rfl w.heap.size 49 i0 (.agg #[.int .i64 0, .int .i64 0]) 2 16 Try.underlying46 hi0 hz hzs hzb rfl (by decide) (.slice (some ⟨gg, 0, none⟩) M cc) M (runCells ((a, a + T.leavesL ks) :: T.runsL a (ks.take k))) rfl HO1.out ⟨g2, 0, none⟩ N cap2 (runCells qs) rfl (by rw [runCells_length, HQN.out]) (HO2.out.cells (g := g2) rfl) (runCells_one _) (by unfold maxLen; omega) (by omega) (by omega) ?_; intro v3 w3 hown3 hg3 hnil3 hat3; obtain ⟨g3, cap3, rfl, _, _, _⟩ := owns_some hown3 (fun e => by have := hnil3.1 e; simp at this))
            have HO3 := Lib.hid hown3
            have HB3 := Lib.hid (((hB.trans (hb2.mono hsw)).grown hg3 (by omega) (fun q e => (HO1.out.lt q e).1)))
            have HLC := Lib.hid (HLV.out w3 HB3.out)
            clear hown3 hg3 hnil3 hat3
            go_wp2_with fail
            refine HLC.out.mono ?_
            rintro e w4 ⟨rfl, rfl⟩
            go_wp2_with fail
            go_roundw
            case rel =>
              refine ⟨k + 1, g3, cap3, M + N, by omega, ?_, by go_num, rfl, ?_, ?_, HB3.out⟩
              · rw [← HX.out.1]; go_num
              · rw [HX.out.2, List.length_append, ← HM.out, ← HQN.out]
              · rw [HX.out.2, runCells_append]; exact HO3.out
            case measure => simp [intOf]; omega
        · have hkk : k = ks.length := by omega
          have HE : Hid ((T.node c ks).runs a = (a, a + T.leavesL ks) :: T.runsL a (ks.take k)) := Lib.hid (by rw [T.runs, hkk, List.take_length])
          clear hkk ih
          go_wp2_with fail
          go_ret
          refine ⟨hB, gg, cc, ?_, ?_⟩
          · rw [HE.out, ← HM.out]; rfl
          · rw [HE.out, ← HM.out]; exact HO.out

/-- A row of runs. -/
def RunG (w : World) (g : Nat) (rs : List (Nat × Nat)) : Prop := ∀ j (h : j < rs.length), w.cell? ⟨g, j * 2, none⟩ = some (.int .i64 (rs[j].1 : Int)) ∧ w.cell? ⟨g, j * 2 + 1, none⟩ = some (.int .i64 (rs[j].2 : Int))

theorem RunG.of_owns {w : World} {base g n cap : Nat} {rs : List (Nat × Nat)} (h : w.ownsRow base 49 2 (.slice (some ⟨g, 0, none⟩) n cap) n (runCells rs)) : RunG w g rs := fun j hj => by
  obtain ⟨e1, e2⟩ := runCells_get rs j hj
  have ha : ∀ n, (⟨g, 0, none⟩ : Addr).add n = ⟨g, n, none⟩ := fun n => by unfold Addr.add; split <;> simp_all
  have c1 := h.cells (g := g) rfl (j * 2) _ e1
  have c2 := h.cells (g := g) rfl (j * 2 + 1) _ e2
  rw [ha] at c1 c2
  exact ⟨c1, c2⟩

theorem RunG.below {w w' : World} {g : Nat} {rs : List (Nat × Nat)} (h : RunG w g rs) (hb : Below w.heap.size w w') : RunG w' g rs := fun j hj => ⟨keep1 hb (h j hj).1, keep1 hb (h j hj).2⟩

/-- Two runs compared. -/
theorem eql_run (a b c d : Int) (w : World) : (binOp .eql 49 (.agg #[.int .i64 a, .int .i64 b]) (.agg #[.int .i64 c, .int .i64 d])).run Try.prog w = .ok (.bool (a == c && b == d)) w := by
  have u3 := Try.underlying3
  have a3 := Try.isAgg3
  have z3 := Try.sizeOf3
  have hS : Try.prog.underlying 49 = some (.struct (Try.prog.fieldsOf 49)) := by kernel_rfl
  have hp : Try.prog.stoodInHeld 49 = false := by kernel_rfl
  rw [run_eql_struct, show (10000 : Nat) = 9999 + 1 from rfl, run_equalIn_agg w 9999 49 _ _ hS hp]
  simp only [Program.fieldsOf, Try.underlying49]
  go_simp
  by_cases h1 : a = c <;> by_cases h2 : b = d <;> simp [h1, h2]

theorem guard_run : Try.prog.eqGuardType Try.prog.depth 49 = false := by kernel_rfl

/-- What 'slices.Index' answers at runs. -/
def IdxRun (rs : List (Nat × Nat)) (x : Nat × Nat) (w : World) (e : Ending) (w' : World) : Prop :=
  Below w.heap.size w w' ∧ ((x ∈ rs ∧ ∃ k : Nat, e = .returned (.int .i64 k)) ∨ (x ∉ rs ∧ e = .returned (.int .i64 (-1))))

set_option maxRecDepth 100000 in
set_option maxHeartbeats 1000000 in
theorem indexRun_any (rs : List (Nat × Nat)) (x : Nat × Nat) (n : Nat) (hns : n = rs.length) (g cap : Nat) (w : World) (hn : n ≤ 1048576) (hl : RunG w g rs) :
    Calls Try.prog 44 #[.slice (some ⟨g, 0, none⟩) n cap, .agg #[.int .i64 (x.1 : Int), .int .i64 (x.2 : Int)]] w (IdxRun rs x w) := by
  have HL := Lib.hid hl
  have HNN := Lib.hid hns
  obtain ⟨x1, hx1⟩ : ∃ x1 : Int, x1 = (x.1 : Int) := ⟨_, rfl⟩
  obtain ⟨x2, hx2⟩ : ∃ x2 : Int, x2 = (x.2 : Int) := ⟨_, rfl⟩
  rw [← hx1, ← hx2]
  have HX := Lib.hid (And.intro hx1 hx2)
  clear hl hns hx1 hx2
  go_enter Try.func44, Try.ntmps44
  go_wp2_with fail
  go_loopw [8] (fun iv wr => ∃ i : Nat, i ≤ n ∧ iv = .int .i64 i ∧ Below (w.heap.size + 1) (w.alloc (.cells #[.int .i64 x1, .int .i64 x2] 49)) wr ∧ ∀ j (h : j < rs.length), j < i → rs[j] ≠ x) (fun iv _ => n - (intOf iv).toNat)
  case atStart => exact ⟨0, Nat.zero_le _, rfl, Below.refl _ _, fun j _ hj => by omega⟩
  case round =>
    obtain ⟨i, hi, rfl, hB, hne⟩ := hrel
    have HNE := Lib.hid hne
    have hW : Below w.heap.size w wr := ((Below.refl _ _).alloc (Nat.le_refl _) _).trans (hB.mono (by omega))
    have b0 : wr.cell? ⟨w.heap.size, 0, none⟩ = some (.int .i64 x1) := by rw [hB.cell (by simp)]; simp [go_sem]
    have b1 : wr.cell? ⟨w.heap.size, 1, none⟩ = some (.int .i64 x2) := by rw [hB.cell (by simp)]; simp [go_sem]
    have HW := Lib.hid hW
    have HB := Lib.hid hB
    clear hne hW hB
    by_cases hlt : i < n
    · have hlts : i < rs.length := by rw [← HNN.out]; exact hlt
      obtain ⟨c0, c1⟩ := (HL.out.below HW.out) i hlts
      obtain ⟨y1, hy1⟩ : ∃ y1 : Int, y1 = (rs[i].1 : Int) := ⟨_, rfl⟩
      obtain ⟨y2, hy2⟩ : ∃ y2 : Int, y2 = (rs[i].2 : Int) := ⟨_, rfl⟩
      rw [← hy1] at c0
      rw [← hy2] at c1
      have HY := Lib.hid (And.intro hy1 hy2)
      have i0 : (0 : Int) ≤ (i : Int) := by omega
      clear hy1 hy2
      have heq := fun w => eql_run x1 x2 y1 y2 w
      have hgd := guard_run
      by_cases he : x1 = y1 ∧ x2 = y2
      · have HE : Hid (x ∈ rs) := Lib.hid (by
          have h1 := HX.out; have h2 := HY.out
          have : rs[i] = x := Prod.ext (by omega) (by omega)
          rw [← this]; exact List.getElem_mem hlts)
        obtain ⟨rfl, rfl⟩ := he
        go_wp2_with fail
        go_quiet (fail)
        go_wp2_with fail
        go_ret
        exact ⟨below_drewN HW.out _, .inl ⟨HE.out, i, rfl⟩⟩
      · have heq : (x1 == y1 && x2 == y2) = false := by
          rw [Bool.and_eq_false_iff]
          by_cases h1 : x1 = y1
          · exact .inr (by simpa using fun h2 => he ⟨h1, h2⟩)
          · exact .inl (by simpa using h1)
        have HNEX : Hid (rs[i] ≠ x) := Lib.hid (fun e => he (by
          have h1 := HX.out; have h2 := HY.out
          rw [e] at h2; omega))
        clear he
        go_wp2_with fail
        go_quiet (fail)
        go_wp2_with fail
        go_roundw
        case rel => exact ⟨i + 1, by omega, by go_num, below_drewN HB.out _, fun j h hj => by
            by_cases e : j = i
            · subst e; exact HNEX.out
            · exact HNE.out j h (by omega)⟩
        case measure => simp [intOf]; omega
    · have hin : i = n := by omega
      have HF : Hid (x ∉ rs) := Lib.hid (fun hm => by
        obtain ⟨j, hj, e⟩ := List.getElem_of_mem hm
        exact HNE.out j hj (by rw [hin, HNN.out]; exact hj) e)
      go_wp2_with fail
      go_ret
      exact ⟨HW.out, .inr ⟨HF.out, rfl⟩⟩

set_option maxRecDepth 100000 in
theorem containsRun_any (rs : List (Nat × Nat)) (x : Nat × Nat) (n : Nat) (hns : n = rs.length) (g cap : Nat) (w : World) (hn : n ≤ 1048576) (hl : RunG w g rs) :
    Calls Try.prog 28 #[.slice (some ⟨g, 0, none⟩) n cap, .agg #[.int .i64 (x.1 : Int), .int .i64 (x.2 : Int)]] w (Ans (.bool (decide (x ∈ rs))) w) := by
  have HI := Lib.hid (indexRun_any rs x n hns g cap (w.alloc (.cells #[.int .i64 (x.1 : Int), .int .i64 (x.2 : Int)] 49)) hn (hl.below ((Below.refl _ _).alloc (Nat.le_refl _) _)))
  clear hns hl
  go_enter Try.func28, Try.ntmps28
  go_wp2_with fail
  refine HI.out.mono ?_
  rintro e w1 ⟨hB, ⟨hx, k, rfl⟩ | ⟨hx, rfl⟩⟩
  · have HX := Lib.hid hx
    have HB := Lib.hid (((Below.refl _ w).alloc (Nat.le_refl _) (.cells #[.int .i64 (x.1 : Int), .int .i64 (x.2 : Int)] 49)).trans (hB.mono (by simp)))
    have k0 : (0 : Int) ≤ (k : Int) := by omega
    clear hx hB
    go_wp2_with fail
    go_ret
    exact ⟨by rw [decide_eq_true HX.out]; first | rfl | simp, HB.out⟩
  · have HX := Lib.hid hx
    have HB := Lib.hid (((Below.refl _ w).alloc (Nat.le_refl _) (.cells #[.int .i64 (x.1 : Int), .int .i64 (x.2 : Int)] 49)).trans (hB.mono (by simp)))
    clear hx hB
    go_wp2_with fail
    go_ret
    exact ⟨by rw [decide_eq_false HX.out]; first | rfl | simp, HB.out⟩

end Go.Proofs.Ytbbkaephlojalaa
