/- The program cuts a tree at a node. -/
import Derived.Test.YtfflgjidapclkaaMirrorI
import Derived.Test.YtfflgjidapclkaaKReadA
import Derived.Test.YtfflgjidapclkaaKPartS
namespace Go.Proofs.Ytfflgjidapclkaa
open Go.RowKit

/-- A new slice of the same cells. -/
def Cloned (n : Nat) (xs : List Value) (w : World) (e : Ending) (w' : World) : Prop :=
  Below w.heap.size w w' ∧ ∃ g cap, e = .returned (.slice (some ⟨g, 0, none⟩) n cap) ∧ w'.ownsRow w.heap.size 44 1 (.slice (some ⟨g, 0, none⟩) n cap) n xs

set_option maxRecDepth 100000 in
set_option maxHeartbeats 1000000 in
theorem clone_any (g n cap : Nat) (xs : List Value) (w : World) (hn : 0 < n) (hn2 : n ≤ 1000000) (hl : xs.length = n) (hx : ∀ j u, xs[j]? = some u → w.cell? ⟨g, j, none⟩ = some u) (h1 : ∀ u ∈ xs, u.oneCell' = true) :
    Calls Try.prog 52 #[.slice (some ⟨g, 0, none⟩) n cap] w (Cloned n xs w) := by
  obtain ⟨i0, hi0, hz, hzs, hzb⟩ := info_parts info46
  have R0 : Hid ((w.alloc (.cells #[] 44)).ownsRow w.heap.size 44 1 (.slice (some ⟨w.heap.size, 0, none⟩) 0 0) 0 []) := Lib.hid (World.ownsRow_made w #[] 0 (Nat.le_refl _) (by simp [maxLen]) rfl)
  have HX := Lib.hid hx
  have H1 := Lib.hid h1
  have HLN := Lib.hid hl
  have hnil : (binOp .eql 61 (.slice (some ⟨g, 0, none⟩) n cap) (.slice none 0 0)).run Try.prog w = .ok (.bool false) w := by
    simp only [binOp]
    simp [Op.equal, Op.maxDepth, Lib.run_equalIn_slice_nil w 9999 61 44 (some ⟨g, 0, none⟩) n cap 0 0 Try.underlying61]
  clear hx h1 hl
  go_enter Try.func52, Try.ntmps52
  go_wp2_with (at_builtin; refine wpList_append_new _ rfl _ _ 61 rfl w.heap.size 44 i0 .nilIface 1 16 Try.underlying61 hi0 hz hzs hzb rfl (by decide) _ _ _ rfl R0.out ⟨g, 0, none⟩ n cap xs hn rfl ?c1 ?c2 ?c3 ?c4 ?c5 ?c6 ?_)
  case c1 => rw [HLN.out]; omega
  case c2 =>
    intro j u hu
    have e : (⟨g, 0, none⟩ : Addr).add j = ⟨g, j, none⟩ := by unfold Addr.add; split <;> simp_all
    rw [e]
    exact keep1 ((Below.refl _ _).alloc (Nat.le_refl _) _) (HX.out j u hu)
  case c3 => exact H1.out
  case c4 => unfold maxLen; omega
  case c5 => omega
  case c6 => simp
  intro g2 cap2 w2 hown hg _
  have HO := Lib.hid hown
  have HG := Lib.hid hg
  clear hown hg
  go_wp2_with fail
  go_ret
  exact ⟨((Below.refl _ _).alloc (Nat.le_refl _) _).grown HG.out (by simp) (fun q e => by simp [Value.ownBlock] at e; omega), g2, cap2, rfl, HO.out⟩

theorem owns_row' {w : World} {base g n cap : Nat} {e : TypeId} {xs : List Value} (h : w.ownsRow base e 1 (.slice (some ⟨g, 0, none⟩) n cap) n xs) : ∃ cur, w.heap[g]? = some (.cells cur e (0, 0)) ∧ n ≤ cur.size ∧ base ≤ g := by
  rcases h.2 with ⟨e, _⟩ | ⟨g', cap', cur, e, hb, hg, hn, _, hs, _⟩
  · cases e
  · simp only [Value.slice.injEq, Option.some.injEq, Addr.mk.injEq] at e
    obtain ⟨⟨rfl, _⟩, _, rfl⟩ := e
    exact ⟨cur, hg, by omega, hb⟩

/-- What 'cutTree' answers. -/
def CutI (P : Nat → Prop) (o : Option (T × T × Nat)) (w : World) (e : Ending) (w' : World) : Prop :=
  Below w.heap.size w w' ∧ ((o = none ∧ e = .returned (.tuple #[.nilIface, .nilIface, .int .i64 0, .bool false])) ∨
    ∃ r p a ty1 a1 ty2 a2, o = some (r, p, a) ∧ e = .returned (.tuple #[.iface ty1 (.pointer (some a1)), .iface ty2 (.pointer (some a2)), .int .i64 ((a : Nat) : Int), .bool true]) ∧
      RepI w' (fun b => P b ∨ w.heap.size ≤ b) r ty1 a1 ∧ RepI w' P p ty2 a2)

/-- The kids' cells. -/
def kidCells (w : World) (g n : Nat) : List Value := (List.range n).map fun j => (w.cell? ⟨g, j, none⟩).getD undef

theorem kidCells_get {w : World} {P : Nat → Prop} {ks : List T} {g : Nat} (hL : RepIL w P ks g 0) : ∀ j u, (kidCells w g ks.length)[j]? = some u → w.cell? ⟨g, j, none⟩ = some u := by
  intro j u h
  simp only [kidCells, List.getElem?_map, Option.map_eq_some_iff] at h
  obtain ⟨i, hi, rfl⟩ := h
  have hj : i = j ∧ j < ks.length := by
    rw [List.getElem?_eq_some_iff] at hi
    obtain ⟨h1, h2⟩ := hi
    simp at h1 h2
    exact ⟨h2.symm, h1⟩
  obtain ⟨rfl, hj⟩ := hj
  obtain ⟨ty, a, e, _⟩ := hL.get i hj
  rw [Nat.zero_add] at e
  rw [e]; rfl

theorem kidCells_one {w : World} {P : Nat → Prop} {ks : List T} {g : Nat} (hL : RepIL w P ks g 0) : ∀ u ∈ kidCells w g ks.length, u.oneCell' = true := by
  intro u hu
  obtain ⟨j, hj⟩ := List.getElem?_of_mem hu
  have h1 := kidCells_get hL j u hj
  have hlt : j < ks.length := by
    have := (List.getElem?_eq_some_iff.1 hj).1
    simpa [kidCells] using this
  obtain ⟨ty, a, e, _⟩ := hL.get j hlt
  rw [Nat.zero_add, h1] at e
  simp only [Option.some.injEq] at e
  rw [e]; rfl

set_option maxRecDepth 100000 in
set_option maxHeartbeats 2000000 in
theorem cutTree_any (m : Nat) : ∀ (t : T) (ty : TypeId) (a : Addr) (k : Nat) (w : World) (P : Nat → Prop), SizeOf.sizeOf t ≤ m → t.wf → t.leaves < 1000000 → t.nodes < 1000000 → k < 9223372036854775808 → (∀ b, P b → b < w.heap.size) → RepI w P t ty a →
    Calls Try.prog 38 #[.iface ty (.pointer (some a)), .int .i64 k] w (CutI P (t.cutAt k) w) := by
  induction m with
  | zero => intro t ty a k w P h; cases t <;> simp at h <;> omega
  | succ m ih =>
    intro t ty a k w P hn hwf hlv hnd hk hP hr
    cases t with
    | leaf =>
      rw [RepI] at hr
      subst hr
      have hta := fun v w => assert_leaf v w
      go_enter Try.func38, Try.ntmps38
      go_wp2_with fail
      go_returns
      exact ⟨Below.refl _ _, .inl ⟨by rw [T.cutAt], rfl⟩⟩
    | node c ks =>
      have HR := Lib.hid hr
      rw [RepI] at hr
      obtain ⟨rfl, b, g, cap, rfl, hPb, hPg, h0, h1, h6, hL⟩ := hr
      have HWF := Lib.hid hwf
      rw [T.wf] at hwf
      have hwk := Lib.hid hwf.2.2.2.2
      have hk1 := hwf.2.2.1
      have HL := Lib.hid hL
      have hta := fun v w => assert_node v w
      have hlb := hP b hPb
      clear hL hwf
      rw [T.leaves] at hlv
      rw [T.nodes] at hnd
      by_cases hk0 : k = 0
      · subst hk0
        go_enter Try.func38, Try.ntmps38
        go_wp2_with fail
        go_returns
        have hb : Below w.heap.size w (w.alloc (.cells #[] 80)) := (Below.refl _ _).alloc (Nat.le_refl _) _
        refine ⟨hb, .inr ⟨.leaf, .node c ks, 0, _, _, _, _, by rw [T.cutAt, if_pos rfl], rfl, by rw [RepI], HR.out.below HWF.out hb⟩⟩
      · have hk0' : ((k : Int) == 0) = false := by simpa using hk0
        have hkp : 1 ≤ k := by omega
        have HK0 := Lib.hid hk0
        have H0 := Lib.hid h0
        have H1 := Lib.hid h1
        clear hk0
        go_enter Try.func38, Try.ntmps38
        go_wp2_with fail
        clear h0 h1
        go_loopw [1, 9, 35] (fun kv av iv wr => ∃ (i kk : Nat), i ≤ ks.length ∧ k - 1 = T.nodesL (ks.take i) + kk ∧ kv = .int .i64 kk ∧ av = .int .i64 (T.leavesL (ks.take i)) ∧ iv = .int .i64 i ∧ Below w.heap.size w wr) (fun _ _ iv _ => ks.length - (intOf iv).toNat)
        case atStart => exact ⟨0, k - 1, Nat.zero_le _, by simp [T.nodesL], by go_num, by simp [T.leavesL], rfl, Below.refl _ _⟩
        case round =>
          obtain ⟨i, kk, hi, hkk, rfl, rfl, rfl, hB⟩ := hrel
          have HKK := Lib.hid hkk
          have hkkb : kk < 9223372036854775808 := by omega
          have hle0 := nodesL_take_le (ks := ks) i
          have hll0 := leavesL_take_le (ks := ks) i
          have hsw := hB.size
          clear hkk
          by_cases hlt : i < ks.length
          · obtain ⟨ty', a', d1, d2⟩ := HL.out.get i hlt
            rw [Nat.zero_add] at d1
            have hwi := wfL_get hwk.out i hlt
            have hd : SizeOf.sizeOf ks[i] < SizeOf.sizeOf ks := List.sizeOf_lt_of_mem (List.getElem_mem hlt)
            simp only [T.node.sizeOf_spec] at hn
            have hle := nodesL_take_le (ks := ks) (i + 1)
            have hll := leavesL_take_le (ks := ks) (i + 1)
            rw [nodesL_take hlt] at hle
            rw [leavesL_take hlt] at hll
            have d1' : wr.cell? ⟨g, i, none⟩ = some (.iface ty' (.pointer (some a'))) := keep1 hB d1
            have HD := Lib.hid (d2.below hwi hB)
            have HI := Lib.hid (ih ks[i] ty' a' kk wr P (by omega) hwi (by omega) (by omega) hkkb (fun b hb => by have := hP b hb; omega) HD.out)
            clear d1 d2 hd
            go_wp2_with fail
            refine HI.out.mono ?_
            rintro e w1 ⟨hB1, ⟨hno, rfl⟩ | ⟨r, p, aa, ty1, a1, ty2, a2, hyes, rfl, hr1, hp1⟩⟩
            · have hge : (ks[i]).nodes ≤ kk := by
                rcases Nat.lt_or_ge kk (ks[i]).nodes with h | h
                · obtain ⟨r, p, q, e⟩ := cutAt_some ks[i] kk h
                  rw [e] at hno; cases hno
                · exact h
              have HTN := Lib.hid (nodesL_take hlt)
              have HTL := Lib.hid (leavesL_take hlt)
              have HD1 := Lib.hid (HD.out.below hwi hB1)
              have HB1 := Lib.hid (below_step hB hB1)
              have hni : (ks[i]).nodes < 1000000 := by omega
              have hnl : (ks[i]).leaves < 1000000 := by omega
              have KEQ : Hid ((kk : Int) - (ks[i]).nodes = ((kk - (ks[i]).nodes : Nat) : Int)) := Lib.hid (by omega)
              have KE2 : Hid (k - 1 = T.nodesL (ks.take i) + (ks[i]).nodes + (kk - (ks[i]).nodes)) := Lib.hid (by have := HKK.out; omega)
              clear hno ih
              cases hkq : ks[i] with
              | leaf =>
                rw [hkq] at HD1 HTN HTL KEQ KE2
                have hty := HD1.out
                rw [RepI] at hty
                subst hty
                have HQ := Lib.hid hkq
                clear hkq hwi
                go_wp2_with fail
                refine (leafNodes_any _ _).mono ?_
                rintro e w2 ⟨rfl, rfl⟩
                go_wp2_with fail
                refine (leafLeaves_any _ _).mono ?_
                rintro e w2 ⟨rfl, rfl⟩
                go_wp2_with fail
                go_roundw
                case rel => exact ⟨i + 1, kk, by omega, by rw [HTN.out, T.nodes]; have := KE2.out; rw [T.nodes] at this; omega, by go_num, by rw [HTL.out, T.leaves]; go_num, by go_num, HB1.out⟩
                case measure => simp [intOf]; omega
              | node c' ks' =>
                rw [hkq] at HD1 HTN HTL KEQ KE2 hwi hni hnl hge hll
                rw [T.leaves] at hll
                have hty : ty' = 88 := by have := HD1.out; rw [RepI] at this; exact this.1
                subst hty
                rw [T.wf] at hwi
                have HQ := Lib.hid hkq
                have HNN := Lib.hid (nodeNodes_any _ c' ks' _ a' w1 P (Nat.le_refl _) hwi.2.2.2.2 (by rw [T.nodes] at hni; omega) HD1.out)
                have HNL := Lib.hid (nodeLeaves_any _ c' ks' _ a' w1 P (Nat.le_refl _) hwi.2.2.2.2 (by rw [T.leaves] at hnl; omega) HD1.out)
                have hge2 : ((1 + T.nodesL ks' : Nat) : Int) ≤ kk := by rw [T.nodes] at hge; omega
                clear hkq hwi
                go_wp2_with fail
                refine HNN.out.mono ?_
                rintro e w2 ⟨rfl, rfl⟩
                go_wp2_with fail
                refine HNL.out.mono ?_
                rintro e w2 ⟨rfl, rfl⟩
                go_wp2_with fail
                go_roundw
                case rel => exact ⟨i + 1, kk - (1 + T.nodesL ks'), by omega, by rw [HTN.out]; have := KE2.out; rw [T.nodes] at this ⊢; exact this, by go_num, by rw [HTL.out, T.leaves]; go_num, by go_num, HB1.out⟩
                case measure => simp [intOf]; omega
            · have hnk : kk < (ks[i]).nodes := by
                rcases Nat.lt_or_ge kk (ks[i]).nodes with h | h
                · exact h
                · rw [cutAt_none _ _ h] at hyes; cases hyes
              have hh := cutL_here ks i kk hlt r p aa hnk hyes
              rw [← HKK.out] at hh
              have hwrp := cutAt_wf _ _ _ _ _ hwi hyes
              have hcut : (T.node c ks).cutAt k = some (.node c (ks.set i r), p, T.leavesL (ks.take i) + aa) := by
                rw [T.cutAt, if_neg HK0.out, hh]
              have HC := Lib.hid hcut
              have HLr : Hid (RepIL w1 P ks g 0) := Lib.hid (HL.out.keep (Keeps.of_below (below_step hB hB1) P) (fun _ h _ => h) hPg hwk.out)
              have HCl := Lib.hid (clone_any g ks.length cap (kidCells w1 g ks.length) w1 (by omega) (by omega) (by simp [kidCells]) (kidCells_get HLr.out) (kidCells_one HLr.out))
              have e0 : w1.cell? ⟨b, 0, none⟩ = some (.string ⟨#[c]⟩) := keep1 (below_step hB hB1) H0.out
              have e1 : w1.cell? ⟨b, 1, none⟩ = some (.slice (some ⟨g, 0, none⟩) ks.length cap) := keep1 (below_step hB hB1) H1.out
              have HBB1 := Lib.hid (below_step hB hB1)
              have HR1 := Lib.hid hr1
              have HP1 := Lib.hid hp1
              have hal := hwrp.2.2.2
              have HWR := Lib.hid hwrp
              have hs1 := hB1.size
              clear hyes hh hcut hr1 hp1 ih hwrp
              go_wp2_with fail
              refine HCl.out.mono ?_
              rintro e w2 ⟨hB2, g2, cap2, rfl, hown⟩
              obtain ⟨cur, hcur, hcn, hcb⟩ := owns_row' hown
              have hcell : w2.cell? ⟨g2, i, none⟩ = some (cur[i]'(by omega)) := by rw [Lib.cell_of_heap hcur]; simp
              have hfz : w2.frozen? ⟨g2, i, none⟩ = false := Lib.frozen_of_heap hcur i
              have x0 := keep1 hB2 e0
              have hb2 : b < w2.heap.size := World.block_lt_of_cell? w2 _ x0
              have x1 := keep1 hB2 e1
              have hbg : b ≠ g2 := by have := World.block_lt_of_cell? w1 _ e0; omega
              have HO := Lib.hid hown
              have HCU := Lib.hid hcur
              clear hown hcur
              go_wp2_with fail
              go_returns
              have hbb : Below w.heap.size w w2 := below_step HBB1.out hB2
              have hcur' := heap_setCell_same (k := i) HCU.out (.iface ty1 (.pointer (some a1)))
              have hg2w : w.heap.size ≤ g2 := by have := HBB1.out.size; omega
              have hkeep : Keeps (fun q => q < w1.heap.size) w1 ((w2.setCell ⟨g2, i, none⟩ (.iface ty1 (.pointer (some a1)))).alloc (.cells #[.string ⟨#[c]⟩, .slice (some ⟨g2, 0, none⟩) ks.length cap2] 90)) := by
                intro q u hq hu
                rw [World.cell?_of_block (w := w1)]
                · exact hu
                · rw [Below.heap_alloc _ _ _ (by simp; have := hB2.size; omega), Below.heap_setCell _ _ _ _ (by simp; omega), hB2.block _ hq]
              refine ⟨(hbb.setCell (by simpa using hg2w) _).alloc (by simp; have := hbb.size; omega) _, .inr ⟨_, p, _, _, _, _, _, HC.out, by rfl, ?_, ?_⟩⟩
              · rw [RepI]
                refine ⟨rfl, w2.heap.size, g2, cap2, rfl, .inr (by have := hbb.size; omega), .inr hg2w, by rw [World.cell?_alloc_at _ _ _ _ (by simp)]; rfl, by rw [World.cell?_alloc_at _ _ _ _ (by simp), List.length_set]; rfl, by rw [List.length_set]; exact h6, RepIL.of_get fun j hj => ?_⟩
                rw [List.length_set] at hj
                rw [Nat.zero_add]
                have hgl : g2 < w2.heap.size := (Array.getElem?_eq_some_iff.1 HCU.out).1
                have hrow : ∀ q, ((w2.setCell ⟨g2, i, none⟩ (.iface ty1 (.pointer (some a1)))).alloc (.cells #[.string ⟨#[c]⟩, .slice (some ⟨g2, 0, none⟩) ks.length cap2] 90)).cell? ⟨g2, q, none⟩ = (cur.setIfInBounds i (.iface ty1 (.pointer (some a1))))[q]? := by
                  intro q
                  rw [World.cell?_of_block (w := w2.setCell ⟨g2, i, none⟩ (.iface ty1 (.pointer (some a1)))) (Below.heap_alloc _ _ _ (by simpa using hgl)), Lib.cell_of_heap hcur']
                by_cases hji : j = i
                · subst hji
                  refine ⟨ty1, a1, ?_, ?_⟩
                  · rw [hrow, Array.getElem?_setIfInBounds, if_pos rfl, if_pos (by omega)]
                  · rw [List.getElem_set_self]
                    exact (HR1.out.keep (w' := w1) (P' := fun q => (P q ∨ wr.heap.size ≤ q) ∧ q < w1.heap.size) (fun _ _ _ h => h) (fun b h hl => ⟨h, hl⟩) HWR.out.1).keep (hkeep.mono (fun b h => h.2)) (fun b h _ => by rcases h.1 with h | h; exact .inl h; exact .inr (by omega)) HWR.out.1
                · obtain ⟨ty3, a3, e3, e4⟩ := HLr.out.get j hj
                  rw [Nat.zero_add] at e3
                  refine ⟨ty3, a3, ?_, ?_⟩
                  · rw [hrow, Array.getElem?_setIfInBounds, if_neg (by omega)]
                    have hx := HO.out.cellAt j (by omega)
                    rw [Lib.cell_of_heap HCU.out] at hx
                    rw [hx]
                    simp [kidCells, hj, e3]
                  · rw [List.getElem_set_ne (by omega)]
                    exact e4.keep (hkeep.mono (fun b hb => by have := hP b hb; have := HBB1.out.size; omega)) (fun b h _ => .inl h) (wfL_get hwk.out j hj)
              · exact HP1.out.keep (hkeep.mono (fun b hb => by have := hP b hb; have := HBB1.out.size; omega)) (fun _ h _ => h) HWR.out.2.1
          · have hii : i = ks.length := by omega
            have hnone : (T.node c ks).cutAt k = none := by
              rw [T.cutAt, if_neg HK0.out, cutL_none ks (k - 1) (by have := HKK.out; rw [hii, List.take_length] at this; omega)]
            have HN := Lib.hid hnone
            clear hii hnone ih
            go_wp2_with fail
            go_returns
            exact ⟨hB, .inl ⟨HN.out, rfl⟩⟩
end Go.Proofs.Ytfflgjidapclkaa
