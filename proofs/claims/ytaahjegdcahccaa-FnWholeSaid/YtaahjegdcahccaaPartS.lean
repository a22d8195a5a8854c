/- The model: the part at a node. -/
import Derived.Test.YtaahjegdcahccaaOut
import Derived.Test.YtaahjegdcahccaaCut
namespace Go.Proofs.Ytaahjegdcahccaa
open Go.RowKit

/-- A part is handed back, where it lay. -/
def PartS (P : Nat → Prop) (p : T) (a : Nat) (w : World) (e : Ending) (w' : World) : Prop :=
  Below w.heap.size w w' ∧ ∃ (lb : ByteArray) (sa : Option Addr) (sn sc : Nat), e = .returned (.tuple #[.agg #[.string lb, .slice sa sn sc], .int .i64 a]) ∧ RepS w' P p (.string lb) (.slice sa sn sc)

theorem RepS.shape' {w : World} {P : Nat → Prop} {t : T} {l s : Value} (h : RepS w P t l s) : ∃ (lb : ByteArray) (sa : Option Addr) (sn sc : Nat), l = .string lb ∧ s = .slice sa sn sc := by
  cases t with
  | leaf => rw [RepS] at h; exact ⟨_, _, _, _, h.1, h.2⟩
  | node c ks => rw [RepS] at h; obtain ⟨h1, g, cap, h2, _⟩ := h; exact ⟨_, _, _, _, h1, h2⟩

set_option maxRecDepth 100000 in
set_option maxHeartbeats 2000000 in
theorem l1Part_any (m : Nat) : ∀ (t : T) (l s : Value) (k : Nat) (r p : T) (a : Nat) (w : World) (P : Nat → Prop), SizeOf.sizeOf t ≤ m → t.wf → t.leaves < 1000000 → t.nodes < 1000000 → k < t.nodes → t.cutAt k = some (r, p, a) → (∀ b, P b → b < w.heap.size) → RepS w P t l s →
    Calls Try.prog 97 #[.agg #[l, s], .int .i64 k] w (PartS P p a w) := by
  induction m with
  | zero => intro t l s k r p a w P h; cases t <;> simp at h <;> omega
  | succ m ih =>
    intro t l s k r p a w P hn hwf hlv hnd hk hcut hP hr
    cases t with
    | leaf => rw [T.nodes] at hk; omega
    | node c ks =>
      have HR := Lib.hid hr
      rw [RepS] at hr
      obtain ⟨rfl, g, cap, rfl, hPg, hk6, hL⟩ := hr
      have HWF := Lib.hid hwf
      rw [T.wf] at hwf
      have hwk := Lib.hid hwf.2.2.2.2
      have HL := Lib.hid hL
      have HC := Lib.hid hcut
      clear hL hwf hcut
      by_cases h0 : k = 0
      · have hc := HC.out
        rw [T.cutAt, if_pos h0] at hc
        simp only [Option.some.injEq, Prod.mk.injEq] at hc
        obtain ⟨rfl, rfl, rfl⟩ := hc
        subst h0
        go_enter Try.func97, Try.ntmps97
        go_wp2_with fail
        refine bodyPost_ret (v := .tuple #[.agg #[.string ⟨#[c]⟩, .slice (some ⟨g, 0, none⟩) ks.length cap], .int .i64 0]) (by simp [results, Try.results97, go_sem]) rfl ?_
        have hb : Below w.heap.size w ((w.alloc (.cells #[.string ⟨#[c]⟩, .slice (some ⟨g, 0, none⟩) ks.length cap] 70 (0, 0))).alloc (.cells #[.string ⟨#[c]⟩, .slice (some ⟨g, 0, none⟩) ks.length cap] 70 (0, 0))) := by go_grown
        exact ⟨hb, _, _, _, _, rfl, HR.out.below HWF.out hb⟩
      · have hk0 : ((k : Int) == 0) = false := by simpa using h0
        have hcl : ∃ rs, T.cutL ks (k - 1) = some (rs, p, a) := by
          have hc := HC.out
          rw [T.cutAt, if_neg h0] at hc
          cases hq : T.cutL ks (k - 1) with
          | none => rw [hq] at hc; cases hc
          | some q =>
            obtain ⟨rs, p', a'⟩ := q
            rw [hq] at hc
            simp only [Option.some.injEq, Prod.mk.injEq] at hc
            exact ⟨rs, by rw [hc.2.1, hc.2.2]⟩
        obtain ⟨rs, hcl⟩ := hcl
        have HCL := Lib.hid hcl
        have hk1 : 1 ≤ k := by omega
        rw [T.nodes] at hk hnd
        rw [T.leaves] at hlv
        clear hcl h0
        go_enter Try.func97, Try.ntmps97
        go_wp2_with fail
        go_loopw [1, 6, 7] (fun kv av iv wr => ∃ (i kk : Nat), i ≤ ks.length ∧ k - 1 = T.nodesL (ks.take i) + kk ∧ kv = .int .i64 kk ∧ av = .int .i64 (T.leavesL (ks.take i)) ∧ iv = .int .i64 i ∧
            wr.heap[w.heap.size]? = some (.cells #[.string ⟨#[c]⟩, .slice (some ⟨g, 0, none⟩) ks.length cap] 70 (0, 0)) ∧
            wr.heap[w.heap.size + 1]? = some (.cells #[.string ⟨#[]⟩, .slice none 0 0] 70 (0, 0)) ∧ Below w.heap.size w wr) (fun _ _ iv _ => ks.length - (intOf iv).toNat)
        case atStart =>
          refine ⟨0, k - 1, Nat.zero_le _, by simp [T.nodesL], by go_num, by simp [T.leavesL], rfl, ?_, ?_, by go_grown⟩
          · rw [Below.heap_alloc _ _ _ (by simp)]; exact heap_alloc_new w _
          · have := heap_alloc_new (w.alloc (Obj.cells #[Value.string { data := #[c] }, Value.slice (some { block := g, off := 0 }) ks.length cap] 70)) (Obj.cells #[Value.string { data := #[] }, Value.slice none 0 0] 70)
            simpa using this
        case round =>
          obtain ⟨i, kk, hi, hkk, rfl, rfl, rfl, hb0, hb1, hB⟩ := hrel
          obtain ⟨c0, c1, _, _⟩ := two_cells hb0
          obtain ⟨r0, r1, f0, f1⟩ := two_cells hb1
          have HB0 := Lib.hid hb0
          have HB1 := Lib.hid hb1
          have hzr := (Array.getElem?_eq_some_iff.1 hb1).1
          have HKK := Lib.hid hkk
          have hle0 := nodesL_take_le (ks := ks) i
          have hll0 := leavesL_take_le (ks := ks) i
          have hkkb : kk ≤ k := by omega
          clear hb0 hb1 hkk
          by_cases hlt : i < ks.length
          · obtain ⟨l', s', d1, d2, d3⟩ := HL.out.get i hlt
            rw [Nat.zero_add] at d1 d2
            have hwi := wfL_get hwk.out i hlt
            have hle := nodesL_take_le (ks := ks) (i + 1)
            have hll := leavesL_take_le (ks := ks) (i + 1)
            rw [nodesL_take hlt] at hle
            rw [leavesL_take hlt] at hll
            have hd : SizeOf.sizeOf ks[i] < SizeOf.sizeOf ks := List.sizeOf_lt_of_mem (List.getElem_mem hlt)
            simp only [T.node.sizeOf_spec] at hn
            have d1' : wr.cell? ⟨g, i * 2, none⟩ = some l' := keep1 hB d1
            have d2' : wr.cell? ⟨g, i * 2 + 1, none⟩ = some s' := keep1 hB d2
            have HD := Lib.hid (d3.below hwi hB)
            have hni : (ks[i]).nodes < 1000000 := by omega
            have hnl : (ks[i]).leaves < 1000000 := by omega
            have HN := Lib.hid (l1Nodes_any _ ks[i] l' s' wr P (Nat.le_refl _) hwi hni HD.out)
            clear d1 d2 d3
            go_wp2_with fail
            refine HN.out.mono ?_
            rintro e w1 ⟨rfl, hB1⟩
            have hz1 := hB1.size
            have hb01 : w1.heap[w.heap.size]? = _ := (hB1.block _ ((Array.getElem?_eq_some_iff.1 HB0.out).1)).trans HB0.out
            have hb11 : w1.heap[w.heap.size + 1]? = _ := (hB1.block _ ((Array.getElem?_eq_some_iff.1 HB1.out).1)).trans HB1.out
            obtain ⟨x0, x1, _, _⟩ := two_cells hb01
            obtain ⟨y0, y1, g0, g1⟩ := two_cells hb11
            have e1 := keep1 hB1 d1'
            have e2 := keep1 hB1 d2'
            have HD1 := Lib.hid (HD.out.below hwi hB1)
            have HB01 := Lib.hid hb01
            have HB11 := Lib.hid hb11
            clear hb01 hb11
            by_cases hin : (kk : Int) < (ks[i]).nodes
            · obtain ⟨r', p', a', hcut⟩ := cutAt_some ks[i] kk (by omega)
              have hh := cutL_here ks i kk hlt r' p' a' (by omega) hcut
              rw [← HKK.out, HCL.out] at hh
              simp only [Option.some.injEq, Prod.mk.injEq] at hh
              obtain ⟨_, hpp, haa⟩ := hh
              subst hpp
              have ha' := (cutAt_wf _ _ _ _ _ hwi hcut).2.2.2
              have HI := Lib.hid (ih ks[i] l' s' kk r' p a' w1 P (by omega) hwi hnl hni (by omega) hcut (fun b hb => by have := hP b hb; have := hB.size; omega) HD1.out)
              have HA := Lib.hid haa
              have HPW := Lib.hid (cutAt_wf _ _ _ _ _ hwi hcut).2.1
              clear haa hcut ih hd
              go_wp2_with fail
              refine HI.out.mono ?_
              rintro e w2 ⟨hB2, lb, sa, sn, sc, rfl, hrep⟩
              have hz2 := hB2.size
              have hb12 : w2.heap[w.heap.size + 1]? = _ := (hB2.block _ (by omega)).trans HB11.out
              obtain ⟨u0, u1, v0, v1⟩ := two_cells hb12
              have hz : w.heap.size + 1 < w2.heap.size := by omega
              have HRP := Lib.hid hrep
              clear hb12 hrep
              go_wp2_with fail
              refine bodyPost_ret (v := .tuple #[.agg #[.string lb, .slice sa sn sc], .int .i64 ((T.leavesL (ks.take i) : Int) + a')]) (by simp [results, Try.results97, go_sem, u0, u1, hz]) rfl ?_
              have hbb : Below w.heap.size w w2 := (hB.trans (hB1.mono hB.size)).trans (hB2.mono (by have := hB.size; omega))
              refine ⟨((hbb.setCell (by simp) _).setCell (by simp) _).alloc (by simp; omega) _, _, _, _, _, by rw [HA.out]; rfl, ?_⟩
              refine HRP.out.keep ?_ (fun _ h _ => h) HPW.out
              intro q u hq hu
              have hqb := hP _ hq
              rw [World.cell?_of_block (w := w2)]
              · exact hu
              · rw [Below.heap_alloc _ _ _ (by simp; omega), Below.heap_setCell _ _ _ _ (by simp; omega), Below.heap_setCell _ _ _ _ (by simp; omega)]
            · have HL2 := Lib.hid (l1Leaves_any _ ks[i] l' s' w1 P (Nat.le_refl _) hwi hnl HD1.out)
              have HT := Lib.hid (nodesL_take hlt)
              have HTL := Lib.hid (leavesL_take hlt)
              have hkn : (((kk : Int) - (ks[i]).nodes)) = ((kk - (ks[i]).nodes : Nat) : Int) := by omega
              have HKN := Lib.hid hkn
              clear ih hd hkn
              go_wp2_with fail
              refine HL2.out.mono ?_
              rintro e w2 ⟨rfl, hB2⟩
              have H1 := Lib.hid ((hB2.block _ (by omega)).trans HB01.out)
              have H2 := Lib.hid ((hB2.block _ (by omega)).trans HB11.out)
              have HB2 := Lib.hid (below_step (below_step hB hB1) hB2)
              go_wp2_with fail
              go_roundw
              case rel => exact ⟨i + 1, kk - (ks[i]).nodes, by omega, by rw [HT.out, HKK.out]; omega, by rw [HKN.out], by rw [HTL.out]; go_num, by go_num, H1.out, H2.out, HB2.out⟩
              case measure => simp [intOf]; omega
          · exfalso
            have hii : i = ks.length := by omega
            subst hii
            have := HKK.out
            rw [List.take_length] at this
            omega
end Go.Proofs.Ytaahjegdcahccaa
