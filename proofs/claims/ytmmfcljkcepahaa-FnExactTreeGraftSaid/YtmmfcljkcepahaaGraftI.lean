/- The program grafts a tree at a leaf, and writes a tree that is small enough. -/
import Derived.Test.YtmmfcljkcepahaaFillI
namespace Go.Proofs.Ytmmfcljkcepahaa
open Go.RowKit

/-- Leaves, with a tree at k. -/
def oneIn (n k : Nat) (u : T) : List T := (List.replicate n T.leaf).set k u

theorem oneIn_length (n k : Nat) (u : T) : (oneIn n k u).length = n := by simp [oneIn]
theorem oneIn_get {n k : Nat} {u : T} {j : Nat} (h : j < (oneIn n k u).length) : (oneIn n k u)[j] = if k = j then u else T.leaf := by
  simp only [oneIn, List.getElem_set, List.getElem_replicate]
theorem wfL_of {ks : List T} (h : ∀ (j : Nat) (hj : j < ks.length), (ks[j]).wf) : T.wfL ks := by
  induction ks with
  | nil => simp [T.wfL]
  | cons k ks ih =>
    rw [T.wfL]
    exact ⟨h 0 (by simp), ih (fun j hj => by have := h (j + 1) (by simpa using hj); simpa using this)⟩
theorem oneIn_wf {n k : Nat} {u : T} (hu : u.wf) : T.wfL (oneIn n k u) := wfL_of fun j hj => by
  rw [oneIn_get hj]
  split
  · exact hu
  · simp [T.wf]
theorem oneIn_size {n k : Nat} {u : T} (hl : u.leaves ≤ 12) (hn : u.nodes ≤ 16) : ∀ v ∈ oneIn n k u, v.leaves ≤ 12 ∧ v.nodes ≤ 16 := by
  intro v hv
  obtain ⟨j, hj, rfl⟩ := List.getElem_of_mem hv
  rw [oneIn_get hj]
  split
  · exact ⟨hl, hn⟩
  · simp [T.leaves, T.nodes]

/-- Ahead of each round: so many cells hold a leaf. -/
def LRel (w : World) (n i : Nat) (wr : World) : Prop :=
  ∃ cur : Array Value, wr.heap[w.heap.size]? = some (.cells cur 107 (0, 0)) ∧ cur.size = n ∧
    (∀ j, j < n → j < i → ∃ a, cur[j]? = some (.iface 227 (.pointer (some a)))) ∧ Below w.heap.size w wr

theorem LRel.next {w wr : World} {n i : Nat} {a : Addr} {X : Obj} (h : LRel w n i wr) (hi : i < n) :
    LRel w n (i + 1) ((wr.setCell ⟨w.heap.size, i, none⟩ (.iface 227 (.pointer (some a)))).alloc X) := by
  obtain ⟨cur, hc, hs, hl, hB⟩ := h
  have hlt := (Array.getElem?_eq_some_iff.1 hc).1
  refine ⟨_, (Below.heap_alloc _ _ _ (by simp; omega)).trans (heap_setCell_same hc _), by simpa using hs, ?_, (hB.setCell (by simp) _).alloc (by simp; omega) _⟩
  intro j hj hji
  by_cases e : j = i
  · subst e
    exact ⟨a, by rw [Array.getElem?_setIfInBounds, if_pos rfl, if_pos (by omega)]⟩
  · obtain ⟨a', e'⟩ := hl j hj (by omega)
    exact ⟨a', by rw [Array.getElem?_setIfInBounds, if_neg (by omega)]; exact e'⟩

set_option maxRecDepth 100000 in
set_option maxHeartbeats 2000000 in
theorem graftAt_any (t : T) (k : Nat) (u : T) (ty : TypeId) (a : Addr) (tyu : TypeId) (au : Addr) (w : World) (P : Nat → Prop) (hw : t.wf) (huw : u.wf) (hl : t.leaves < 1000000) (hk : k < t.leaves) (hP : ∀ b, P b → b < w.heap.size) (hr : RepI w P t ty a) (hru : RepI w P u tyu au) :
    Calls Try.prog 123 #[.iface ty (.pointer (some a)), .int .i64 k, .iface tyu (.pointer (some au))] w (NewIP P (t.fill (oneIn t.leaves k u)) w) := by
  obtain ⟨nn, hnn⟩ : ∃ nn, nn = t.leaves := ⟨_, rfl⟩
  have HNN := Lib.hid hnn
  rw [← hnn]
  have hkn : k < nn := by omega
  have hn2 : nn < 1000000 := by omega
  have HR := Lib.hid hr
  have HRU := Lib.hid hru
  obtain ⟨i0, hi0, hz, hzs, hzb⟩ := info_parts info46
  clear hnn
  cases t with
  | leaf =>
    have hty := HR.out
    rw [RepI] at hty
    subst hty
    have HK := Lib.hid ((leafLeaves_any a w).mono (R' := fun e w' => e = .returned (.int .i64 ((nn : Nat) : Int)) ∧ w = w') (fun e w' h => ⟨by rw [h.1, HNN.out, T.leaves]; rfl, h.2⟩))
    go_enter Try.func123, Try.ntmps123
    go_wp2_with fail
    refine HK.out.mono ?_
    rintro e w2 ⟨rfl, rfl⟩
    go_wp2_with (at_make; refine wpList_make_full _ rfl _ _ 135 rfl w.heap.size 107 i0 .nilIface 1 Try.underlying135 hi0 hz hzs .i64 .i64 _ _ nn rfl rfl rfl rfl ?c1 ?c2 (Nat.le_refl _) ?_)
    case c1 => rw [hzb]; omega
    case c2 => unfold maxLen; omega
    intro w1 hown hg
    have rel0 : LRel w nn 0 w1 := by
      rcases hown.2 with ⟨e, _⟩ | ⟨G, cap', cur, e, _, hG, hnc, hcm, hcs, htake⟩
      · simp at e
      · simp only [Value.slice.injEq, Option.some.injEq, Addr.mk.injEq] at e
        obtain ⟨⟨rfl, _⟩, _, rfl⟩ := e
        exact ⟨cur, hG, by omega, fun j _ h => by omega, (Below.refl _ _).grown hg (by omega) (fun k e => by cases e)⟩
    have R0 := Lib.hid rel0
    clear rel0 hown hg
    go_wp2_with fail
    go_loopw [14] (fun iv wr => ∃ i : Nat, i ≤ nn ∧ iv = .int .i64 i ∧ LRel w nn i wr) (fun iv _ => nn - (intOf iv).toNat)
    case atStart => exact ⟨0, Nat.zero_le _, rfl, R0.out⟩
    case round =>
      obtain ⟨i, hi, rfl, hrel⟩ := hrel
      have HL := Lib.hid hrel
      obtain ⟨cur, hcur, hcs, hcl, hB⟩ := hrel
      have hzr := hB.size
      have HCS := Lib.hid hcs
      by_cases hlt : i < nn
      · have hblk : (wr.alloc (.cells #[] 229)).heap[w.heap.size]? = some (.cells cur 107 (0, 0)) := by
          rw [Below.heap_alloc _ _ _ ((Array.getElem?_eq_some_iff.1 hcur).1)]; exact hcur
        have hcj : wr.cell? ⟨w.heap.size, i, none⟩ = some (cur[i]'(by rw [HCS.out]; exact hlt)) := by rw [Lib.cell_of_heap hcur]; simp
        have hfj : wr.frozen? ⟨w.heap.size, i, none⟩ = false := Lib.frozen_of_heap hcur i
        have hlw : w.heap.size < wr.heap.size := (Array.getElem?_eq_some_iff.1 hcur).1
        have NX := Lib.hid (HL.out.next (a := ⟨wr.heap.size, 0, none⟩) (X := .cells #[] 229 (0, 0)) hlt)
        clear hcur hcs hcl
        go_wp2_with fail
        go_roundw
        case rel => exact ⟨i + 1, by omega, by go_num, NX.out⟩
        case measure => simp [intOf]; omega
      · have hin : i = nn := by omega
        subst hin
        have hcj : wr.cell? ⟨w.heap.size, k, none⟩ = some (cur[k]'(by rw [HCS.out]; exact hkn)) := by rw [Lib.cell_of_heap hcur]; simp
        have hfj : wr.frozen? ⟨w.heap.size, k, none⟩ = false := Lib.frozen_of_heap hcur k
        have hlw : w.heap.size < wr.heap.size := (Array.getElem?_eq_some_iff.1 hcur).1
        have HB := Lib.hid hB
        have hset : (wr.setCell ⟨w.heap.size, k, none⟩ (.iface tyu (.pointer (some au)))).heap[w.heap.size]? = some (.cells (cur.setIfInBounds k (.iface tyu (.pointer (some au)))) 107 (0, 0)) := heap_setCell_same hcur _
        have hBs : Below w.heap.size w (wr.setCell ⟨w.heap.size, k, none⟩ (.iface tyu (.pointer (some au)))) := hB.setCell (by simp) _
        have HUS : Hid (RepIL (wr.setCell ⟨w.heap.size, k, none⟩ (.iface tyu (.pointer (some au)))) (fun b => P b ∨ w.heap.size ≤ b) (oneIn i k u) w.heap.size 0) := Lib.hid (by
          refine RepIL.of_get fun j hj => ?_
          have hj' : j < i := by rw [oneIn_length] at hj; exact hj
          rw [Nat.zero_add, oneIn_get hj]
          by_cases e : k = j
          · subst e
            rw [if_pos rfl]
            refine ⟨tyu, au, ?_, (HRU.out.below huw hBs).keep (fun _ _ _ h => h) (fun b h _ => .inl h) huw⟩
            rw [Lib.cell_of_heap hset, Array.getElem?_setIfInBounds, if_pos rfl, if_pos (by omega)]
          · rw [if_neg e]
            obtain ⟨a', e'⟩ := hcl j hj' hj'
            refine ⟨_, a', ?_, by rw [RepI]⟩
            rw [Lib.cell_of_heap hset, Array.getElem?_setIfInBounds, if_neg (by omega)]; exact e')
        have HBS := Lib.hid hBs
        have hsz2 : (wr.setCell ⟨w.heap.size, k, none⟩ (.iface tyu (.pointer (some au)))).heap.size = wr.heap.size := by simp
        have HG0 := graftAll_any _ .leaf (oneIn i k u) _ a w.heap.size 0 i (wr.setCell ⟨w.heap.size, k, none⟩ (.iface tyu (.pointer (some au)))) (fun b => (P b ∨ w.heap.size ≤ b) ∧ b < wr.heap.size) (Nat.le_refl _) hw (oneIn_wf huw) (by rw [oneIn_length]; exact Nat.le_of_eq HNN.out.symm) (by rw [oneIn_length]; exact Nat.le_refl _) hn2 (fun b hb => by rw [hsz2]; exact hb.2) ⟨.inr (Nat.le_refl _), hlw⟩
          ((HR.out.below hw hBs).keep (fun _ _ _ h => h) (fun b h _ => ⟨.inl h, by have := hP b h; omega⟩) hw) (HUS.out.keep (fun _ _ _ h => h) (fun b h hb => ⟨h, by rw [hsz2] at hb; exact hb⟩) (.inr (Nat.le_refl _)) (oneIn_wf huw))
        rw [oneIn_length] at HG0
        have HG := Lib.hid HG0
        clear HG0 hcur hcs hcl hset hBs hB
        go_wp2_with fail
        refine HG.out.mono ?_
        rintro e w3 ⟨hB3, ty3, a3, rfl, hr3⟩
        have HR3 := Lib.hid hr3
        clear hr3
        go_wp2_with fail
        go_ret
        exact ⟨below_step HBS.out hB3, _, _, rfl, HR3.out.keep (fun _ _ _ h => h) (fun b h _ => by rcases h with h | h; exact h.1; exact .inr (by rw [hsz2] at h; omega)) (fill_wf _ _ hw (oneIn_wf huw))⟩
  | node c ks =>
    have hty := HR.out
    rw [RepI] at hty
    have hty := hty.1
    subst hty
    have HK : Hid (Calls Try.prog 244 #[.pointer (some a)] w (fun e w' => e = .returned (.int .i64 ((nn : Nat) : Int)) ∧ w = w')) := Lib.hid (by
      have hnnq := HNN.out
      rw [T.leaves] at hnnq hl
      have hwk := hw
      rw [T.wf] at hwk
      exact (nodeLeaves_any _ c ks _ a w P (Nat.le_refl _) hwk.2.2.2.2 (by omega) HR.out).mono (fun e w' h => ⟨by rw [h.1, hnnq]; simp, h.2⟩))
    go_enter Try.func123, Try.ntmps123
    go_wp2_with fail
    refine HK.out.mono ?_
    rintro e w2 ⟨rfl, rfl⟩
    go_wp2_with (at_make; refine wpList_make_full _ rfl _ _ 135 rfl w.heap.size 107 i0 .nilIface 1 Try.underlying135 hi0 hz hzs .i64 .i64 _ _ nn rfl rfl rfl rfl ?c1 ?c2 (Nat.le_refl _) ?_)
    case c1 => rw [hzb]; omega
    case c2 => unfold maxLen; omega
    intro w1 hown hg
    have rel0 : LRel w nn 0 w1 := by
      rcases hown.2 with ⟨e, _⟩ | ⟨G, cap', cur, e, _, hG, hnc, hcm, hcs, htake⟩
      · simp at e
      · simp only [Value.slice.injEq, Option.some.injEq, Addr.mk.injEq] at e
        obtain ⟨⟨rfl, _⟩, _, rfl⟩ := e
        exact ⟨cur, hG, by omega, fun j _ h => by omega, (Below.refl _ _).grown hg (by omega) (fun k e => by cases e)⟩
    have R0 := Lib.hid rel0
    clear rel0 hown hg
    go_wp2_with fail
    go_loopw [14] (fun iv wr => ∃ i : Nat, i ≤ nn ∧ iv = .int .i64 i ∧ LRel w nn i wr) (fun iv _ => nn - (intOf iv).toNat)
    case atStart => exact ⟨0, Nat.zero_le _, rfl, R0.out⟩
    case round =>
      obtain ⟨i, hi, rfl, hrel⟩ := hrel
      have HL := Lib.hid hrel
      obtain ⟨cur, hcur, hcs, hcl, hB⟩ := hrel
      have hzr := hB.size
      have HCS := Lib.hid hcs
      by_cases hlt : i < nn
      · have hblk : (wr.alloc (.cells #[] 229)).heap[w.heap.size]? = some (.cells cur 107 (0, 0)) := by
          rw [Below.heap_alloc _ _ _ ((Array.getElem?_eq_some_iff.1 hcur).1)]; exact hcur
        have hcj : wr.cell? ⟨w.heap.size, i, none⟩ = some (cur[i]'(by rw [HCS.out]; exact hlt)) := by rw [Lib.cell_of_heap hcur]; simp
        have hfj : wr.frozen? ⟨w.heap.size, i, none⟩ = false := Lib.frozen_of_heap hcur i
        have hlw : w.heap.size < wr.heap.size := (Array.getElem?_eq_some_iff.1 hcur).1
        have NX := Lib.hid (HL.out.next (a := ⟨wr.heap.size, 0, none⟩) (X := .cells #[] 229 (0, 0)) hlt)
        clear hcur hcs hcl
        go_wp2_with fail
        go_roundw
        case rel => exact ⟨i + 1, by omega, by go_num, NX.out⟩
        case measure => simp [intOf]; omega
      · have hin : i = nn := by omega
        subst hin
        have hcj : wr.cell? ⟨w.heap.size, k, none⟩ = some (cur[k]'(by rw [HCS.out]; exact hkn)) := by rw [Lib.cell_of_heap hcur]; simp
        have hfj : wr.frozen? ⟨w.heap.size, k, none⟩ = false := Lib.frozen_of_heap hcur k
        have hlw : w.heap.size < wr.heap.size := (Array.getElem?_eq_some_iff.1 hcur).1
        have HB := Lib.hid hB
        have hset : (wr.setCell ⟨w.heap.size, k, none⟩ (.iface tyu (.pointer (some au)))).heap[w.heap.size]? = some (.cells (cur.setIfInBounds k (.iface tyu (.pointer (some au)))) 107 (0, 0)) := heap_setCell_same hcur _
        have hBs : Below w.heap.size w (wr.setCell ⟨w.heap.size, k, none⟩ (.iface tyu (.pointer (some au)))) := hB.setCell (by simp) _
        have HUS : Hid (RepIL (wr.setCell ⟨w.heap.size, k, none⟩ (.iface tyu (.pointer (some au)))) (fun b => P b ∨ w.heap.size ≤ b) (oneIn i k u) w.heap.size 0) := Lib.hid (by
          refine RepIL.of_get fun j hj => ?_
          have hj' : j < i := by rw [oneIn_length] at hj; exact hj
          rw [Nat.zero_add, oneIn_get hj]
          by_cases e : k = j
          · subst e
            rw [if_pos rfl]
            refine ⟨tyu, au, ?_, (HRU.out.below huw hBs).keep (fun _ _ _ h => h) (fun b h _ => .inl h) huw⟩
            rw [Lib.cell_of_heap hset, Array.getElem?_setIfInBounds, if_pos rfl, if_pos (by omega)]
          · rw [if_neg e]
            obtain ⟨a', e'⟩ := hcl j hj' hj'
            refine ⟨_, a', ?_, by rw [RepI]⟩
            rw [Lib.cell_of_heap hset, Array.getElem?_setIfInBounds, if_neg (by omega)]; exact e')
        have HBS := Lib.hid hBs
        have hsz2 : (wr.setCell ⟨w.heap.size, k, none⟩ (.iface tyu (.pointer (some au)))).heap.size = wr.heap.size := by simp
        have HG0 := graftAll_any _ (.node c ks) (oneIn i k u) _ a w.heap.size 0 i (wr.setCell ⟨w.heap.size, k, none⟩ (.iface tyu (.pointer (some au)))) (fun b => (P b ∨ w.heap.size ≤ b) ∧ b < wr.heap.size) (Nat.le_refl _) hw (oneIn_wf huw) (by rw [oneIn_length]; exact Nat.le_of_eq HNN.out.symm) (by rw [oneIn_length]; exact Nat.le_refl _) hn2 (fun b hb => by rw [hsz2]; exact hb.2) ⟨.inr (Nat.le_refl _), hlw⟩
          ((HR.out.below hw hBs).keep (fun _ _ _ h => h) (fun b h _ => ⟨.inl h, by have := hP b h; omega⟩) hw) (HUS.out.keep (fun _ _ _ h => h) (fun b h hb => ⟨h, by rw [hsz2] at hb; exact hb⟩) (.inr (Nat.le_refl _)) (oneIn_wf huw))
        rw [oneIn_length] at HG0
        have HG := Lib.hid HG0
        clear HG0 hcur hcs hcl hset hBs hB
        go_wp2_with fail
        refine HG.out.mono ?_
        rintro e w3 ⟨hB3, ty3, a3, rfl, hr3⟩
        have HR3 := Lib.hid hr3
        clear hr3
        go_wp2_with fail
        go_ret
        exact ⟨below_step HBS.out hB3, _, _, rfl, HR3.out.keep (fun _ _ _ h => h) (fun b h _ => by rcases h with h | h; exact h.1; exact .inr (by rw [hsz2] at h; omega)) (fill_wf _ _ hw (oneIn_wf huw))⟩
end Go.Proofs.Ytmmfcljkcepahaa
