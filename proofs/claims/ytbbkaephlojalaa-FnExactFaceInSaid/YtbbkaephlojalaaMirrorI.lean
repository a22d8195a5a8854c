/- The program mirrors a tree. -/
import Derived.Test.YtbbkaephlojalaaKTextI
import Derived.Test.YtbbkaephlojalaaKReadA
import Derived.Test.YtbbkaephlojalaaKMirrorS
namespace Go.Proofs.Ytbbkaephlojalaa
open Go.RowKit

theorem assert_node (v : Value) (w : World) : (Instr.typeAssert (.iface 71 v) 34 71 true).run Try.prog w = .ok (.tuple #[v, .bool true]) w := by
  simp [Instr.typeAssert, run_underlying Try.underlying71]
theorem assert_leaf (v : Value) (w : World) : (Instr.typeAssert (.iface 85 v) 34 71 true).run Try.prog w = .ok (.tuple #[.pointer none, .bool false]) w := by
  have hz : (zeroValue 71).run Try.prog w = .ok (.pointer none) w := by kernel_rfl
  simp [Instr.typeAssert, run_underlying Try.underlying71, hz]

/-- A tree is handed back; what of it is new lies in new memory. -/
def NewI (t : T) (w : World) (e : Ending) (w' : World) : Prop :=
  Below w.heap.size w w' ∧ ∃ ty a, e = .returned (.iface ty (.pointer (some a))) ∧ RepI w' (fun b => w.heap.size ≤ b) t ty a

/-- Ahead of each round: the row in block G holds the mirrored kids from its end on. -/
def RowRel (w : World) (ks : List T) (k : Nat) (wr : World) : Prop :=
  ∃ cur : Array Value, wr.heap[w.heap.size]? = some (.cells cur 34 (0, 0)) ∧ cur.size = ks.length ∧
    (∀ i (h : i < ks.length), i < k → ∃ ty a, cur[ks.length - 1 - i]? = some (.iface ty (.pointer (some a))) ∧ RepI wr (fun b => w.heap.size + 1 ≤ b) (ks[i]).mirror ty a) ∧ Below w.heap.size w wr

theorem RowRel.next {w wr w1 : World} {ks : List T} {k : Nat} {ty : TypeId} {a : Addr} (h : RowRel w ks k wr) (hk : k < ks.length) (hwf : T.wfL ks) (hb : Below wr.heap.size wr w1)
    (hr : RepI w1 (fun b => wr.heap.size ≤ b) (ks[k]).mirror ty a) : RowRel w ks (k + 1) (w1.setCell ⟨w.heap.size, ks.length - 1 - k, none⟩ (.iface ty (.pointer (some a)))) := by
  obtain ⟨cur, hc, hs, hi, hB⟩ := h
  have hlt := (Array.getElem?_eq_some_iff.1 hc).1
  have hc1 : w1.heap[w.heap.size]? = some (.cells cur 34 (0, 0)) := (hb.block _ hlt).trans hc
  have hkeep : ∀ (w0 : World), Below w0.heap.size w0 w1 → Keeps (fun b => w.heap.size + 1 ≤ b) w0 (w1.setCell ⟨w.heap.size, ks.length - 1 - k, none⟩ (.iface ty (.pointer (some a)))) := by
    intro w0 hb0 q u hq hu
    rw [World.cell?_of_block (w := w0)]
    · exact hu
    · rw [Below.heap_setCell _ _ _ _ (by simp; omega), hb0.block _ (World.block_lt_of_cell? w0 q hu)]
  refine ⟨_, heap_setCell_same hc1 _, by simpa using hs, ?_, (hB.trans (hb.mono (by omega))).setCell (by simp) _⟩
  intro i h hik
  by_cases hi2 : i < k
  · obtain ⟨ty', a', e1, e2⟩ := hi i h hi2
    refine ⟨ty', a', ?_, e2.keep (hkeep wr hb) (fun _ h _ => h) (mirror_wf _ (wfL_get hwf i h))⟩
    rw [Array.getElem?_setIfInBounds, if_neg (by omega)]; exact e1
  · have hie : i = k := by omega
    subst hie
    refine ⟨ty, a, ?_, hr.keep (Keeps.mono (hkeep w1 (Below.refl _ _)) (fun b h => by omega)) (fun b h _ => by omega) (mirror_wf _ (wfL_get hwf i h))⟩
    rw [Array.getElem?_setIfInBounds, if_pos rfl, if_pos (by omega)]

set_option maxRecDepth 100000 in
set_option maxHeartbeats 1000000 in
theorem mirrorTree_any (n : Nat) : ∀ (t : T) (ty : TypeId) (a : Addr) (w : World) (P : Nat → Prop), SizeOf.sizeOf t ≤ n → t.wf → RepI w P t ty a →
    Calls Try.prog 25 #[.iface ty (.pointer (some a))] w (NewI t.mirror w) := by
  induction n with
  | zero => intro t ty a w P h; cases t <;> simp at h <;> omega
  | succ n ih =>
    intro t ty a w P hn hwf hr
    cases t with
    | leaf =>
      rw [RepI] at hr
      subst hr
      have hta := fun v w => assert_leaf v w
      go_enter Try.func25, Try.ntmps25
      go_wp2_with fail
      go_ret
      exact ⟨Below.refl _ _, _, _, rfl, by rw [T.mirror, RepI]⟩
    | node c ks =>
      rw [RepI] at hr
      obtain ⟨rfl, b, g, cap, rfl, hPb, hPg, h0, h1, h6, hL⟩ := hr
      rw [T.wf] at hwf
      have HW := Lib.hid hwf
      have HL := Lib.hid hL
      have hk1 := hwf.2.2.1
      have hlb := World.block_lt_of_cell? w _ h0
      have hlg : g < w.heap.size := by
        obtain ⟨ty, a, e1, _⟩ := hL.get 0 (by omega)
        exact World.block_lt_of_cell? w _ e1
      obtain ⟨i0, hi0, hz, hzs, hzb⟩ := info_parts info46
      have hta := fun v w => assert_node v w
      clear hL hwf
      go_enter Try.func25, Try.ntmps25
      go_wp2_with (at_make; refine wpList_make_full _ rfl _ _ 72 rfl w.heap.size 34 i0 .nilIface 1 Try.underlying72 hi0 hz hzs .i64 .i64 _ _ ks.length rfl rfl rfl rfl ?c1 ?c2 (Nat.le_refl _) ?_)
      case c1 => omega
      case c2 => unfold maxLen; omega
      intro w1 hown hg
      have hbw : Below w.heap.size w w1 := (Below.refl _ _).grown hg (by omega) (fun k e => by cases e)
      have rel0 : RowRel w ks 0 w1 := by
        rcases hown.2 with ⟨e, _⟩ | ⟨G, cap', cur, e, _, hG, hnc, hcm, hcs, htake⟩
        · simp at e
        · simp only [Value.slice.injEq, Option.some.injEq, Addr.mk.injEq] at e
          obtain ⟨⟨rfl, _⟩, _, rfl⟩ := e
          exact ⟨cur, hG, by omega, fun i _ h => by omega, hbw⟩
      have R0 := Lib.hid rel0
      have c0 : w1.cell? ⟨b, 0, none⟩ = some (.string ⟨#[c]⟩) := keep1 hbw h0
      have c1 : w1.cell? ⟨b, 1, none⟩ = some (.slice (some ⟨g, 0, none⟩) ks.length cap) := keep1 hbw h1
      clear rel0 hown hg
      have H0 := Lib.hid h0
      have H1 := Lib.hid h1
      clear h0 h1
      go_wp2_with fail
      go_loopw [24] (fun i wr => ∃ k : Nat, k ≤ ks.length ∧ i = .int .i64 k ∧ RowRel w ks k wr) (fun i _ => ks.length - (intOf i).toNat)
      case atStart => exact ⟨0, Nat.zero_le _, rfl, R0.out⟩
      case round =>
        obtain ⟨k, hk', rfl, hrel⟩ := hrel
        have HR := Lib.hid hrel
        obtain ⟨cur, hcur, hcs, _, hB⟩ := hrel
        have HB := Lib.hid hB
        have HCUR := Lib.hid hcur
        have HCS := Lib.hid hcs
        have hzr := hB.size
        have e0 : wr.cell? ⟨b, 0, none⟩ = some (.string ⟨#[c]⟩) := keep1 hB H0.out
        have e1 : wr.cell? ⟨b, 1, none⟩ = some (.slice (some ⟨g, 0, none⟩) ks.length cap) := keep1 hB H1.out
        by_cases hlt : k < ks.length
        · obtain ⟨ty', a', d1, d2⟩ := HL.out.get k hlt
          rw [Nat.zero_add] at d1
          have hwk := wfL_get HW.out.2.2.2.2 k hlt
          have hd : SizeOf.sizeOf ks[k] < SizeOf.sizeOf ks := List.sizeOf_lt_of_mem (List.getElem_mem hlt)
          simp only [T.node.sizeOf_spec] at hn
          have d1' : wr.cell? ⟨g, k, none⟩ = some (.iface ty' (.pointer (some a'))) := keep1 hB d1
          have HI := Lib.hid (ih ks[k] ty' a' wr P (by omega) hwk (d2.below hwk hB))
          obtain ⟨j, hjd⟩ : ∃ j, j = ks.length - 1 - k := ⟨_, rfl⟩
          have hji : ((ks.length : Int) - 1 - k) = (j : Int) := by omega
          have HJ := Lib.hid hjd
          have hjl : j < ks.length := by omega
          clear hcur hcs ih d1 d2 hd hjd
          go_wp2_with fail
          refine HI.out.mono ?_
          rintro e w2 ⟨hb2, ty2, a2, rfl, hrep⟩
          have hblk : w2.heap[w.heap.size]? = some (.cells cur 34 (0, 0)) := (hb2.block _ ((Array.getElem?_eq_some_iff.1 HCUR.out).1)).trans HCUR.out
          have hcj : w2.cell? ⟨w.heap.size, j, none⟩ = some (cur[j]'(by rw [HCS.out]; exact hjl)) := by rw [Lib.cell_of_heap hblk]; simp
          have hfj : w2.frozen? ⟨w.heap.size, j, none⟩ = false := Lib.frozen_of_heap hblk j
          have NX := Lib.hid (HR.out.next hlt HW.out.2.2.2.2 hb2 hrep)
          have hs2 := hb2.size
          clear hblk
          go_wp2_with fail
          have NX' := NX.out
          rw [← HJ.out] at NX'
          exact ⟨⟨k + 1, by omega, by go_num, NX'⟩, by simp [intOf]; omega⟩
        · have hkk : k = ks.length := by omega
          have HK := Lib.hid hkk
          clear hcur hcs hkk ih
          go_wp2_with fail
          go_ret
          obtain ⟨cur', hc', hs', hi', hB'⟩ := HR.out
          have hb3 : Below wr.heap.size wr (wr.alloc (.cells #[.string ⟨#[c]⟩, .slice (some ⟨w.heap.size, 0, none⟩) ks.length ks.length] 74)) := (Below.refl _ _).alloc (Nat.le_refl _) _
          refine ⟨hB.alloc (by omega) _, _, _, rfl, ?_⟩
          rw [T.mirror, RepI]
          refine ⟨rfl, wr.heap.size, w.heap.size, ks.length, rfl, hzr, Nat.le_refl _, by simp, by simp [mirrorL_length], by rw [mirrorL_length]; exact h6, RepIL.of_get fun j hj => ?_⟩
          rw [mirrorL_length] at hj
          obtain ⟨ty', a', e3, e4⟩ := hi' (ks.length - 1 - j) (by omega) (by have := HK.out; omega)
          rw [show ks.length - 1 - (ks.length - 1 - j) = j from by omega] at e3
          refine ⟨ty', a', ?_, ?_⟩
          · rw [Nat.zero_add]
            refine keep1 hb3 ?_
            rw [Lib.cell_of_heap hc', e3]
          · rw [mirrorL_get hj]
            exact (e4.below (mirror_wf _ (wfL_get HW.out.2.2.2.2 _ _)) hb3).keep (fun _ _ _ h => h) (fun b h _ => by omega) (mirror_wf _ (wfL_get HW.out.2.2.2.2 _ _))
end Go.Proofs.Ytbbkaephlojalaa
