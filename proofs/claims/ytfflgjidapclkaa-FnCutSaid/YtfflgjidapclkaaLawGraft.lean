/- TreeGraft on both sides, and its law. -/
import Derived.Test.YtfflgjidapclkaaGraftS
namespace Go.Proofs.Ytfflgjidapclkaa
open Go.RowKit

set_option maxRecDepth 100000 in
set_option maxHeartbeats 2000000 in
theorem l1Graft_any (t : T) (l s : Value) (k : Nat) (u : T) (lu su : Value) (w : World) (P : Nat → Prop) (hw : t.wf) (huw : u.wf) (hl : t.leaves < 1000000) (hk : k < t.leaves) (hP : ∀ b, P b → b < w.heap.size) (hr : RepS w P t l s) (hru : RepS w P u lu su) :
    Calls Try.prog 32 #[.agg #[l, s], .int .i64 k, .agg #[lu, su]] w (NewSP P (t.fill (oneIn t.leaves k u)) w) := by
  obtain ⟨lb, sa, sn, sc, rfl, rfl⟩ := hr.shape'
  obtain ⟨ub, ua, un, uc, rfl, rfl⟩ := hru.shape'
  obtain ⟨i0, hi0, hz, hzs, hzb⟩ := info_parts info42
  have hb1 : Below w.heap.size w (((w.alloc (Obj.cells #[Value.string lb, Value.slice sa sn sc] 52)).alloc (Obj.cells #[Value.string ub, Value.slice ua un uc] 52)).alloc (Obj.cells #[Value.string { data := #[] }, Value.slice none 0 0] 52)) := (((Below.refl _ _).alloc (Nat.le_refl _) _).alloc (by simp) _).alloc (by simp; omega) _
  have HLV := Lib.hid (l1Leaves_any _ t _ _ _ P (Nat.le_refl _) hw hl (hr.below hw hb1))
  have HB1 := Lib.hid hb1
  obtain ⟨nn, hnn⟩ : ∃ nn, nn = t.leaves := ⟨_, rfl⟩
  rw [← hnn] at HLV hk hl
  rw [← hnn]
  have HNN := Lib.hid hnn
  have HR := Lib.hid hr
  have HRU := Lib.hid hru
  clear hb1 hnn hr hru
  go_enter Try.func32, Try.ntmps32
  go_wp2_with fail
  refine HLV.out.mono ?_
  rintro e w1 ⟨rfl, hb2⟩
  have HB2 := Lib.hid hb2
  clear hb2
  have b0 : (((w.alloc (Obj.cells #[Value.string lb, Value.slice sa sn sc] 52)).alloc (Obj.cells #[Value.string ub, Value.slice ua un uc] 52)).alloc (Obj.cells #[Value.string { data := #[] }, Value.slice none 0 0] 52)).heap[w.heap.size]? = some (.cells #[.string lb, .slice sa sn sc] 52 (0, 0)) := by
    rw [Below.heap_alloc _ _ _ (by first | (simp; done) | (simp; omega)), Below.heap_alloc _ _ _ (by simp)]; exact heap_alloc_new w _
  have b1 : (((w.alloc (Obj.cells #[Value.string lb, Value.slice sa sn sc] 52)).alloc (Obj.cells #[Value.string ub, Value.slice ua un uc] 52)).alloc (Obj.cells #[Value.string { data := #[] }, Value.slice none 0 0] 52)).heap[w.heap.size + 1]? = some (.cells #[.string ub, .slice ua un uc] 52 (0, 0)) := by
    rw [Below.heap_alloc _ _ _ (by simp)]
    have := heap_alloc_new (w.alloc (Obj.cells #[Value.string lb, Value.slice sa sn sc] 52)) (Obj.cells #[Value.string ub, Value.slice ua un uc] 52)
    simpa using this
  have b2 : (((w.alloc (Obj.cells #[Value.string lb, Value.slice sa sn sc] 52)).alloc (Obj.cells #[Value.string ub, Value.slice ua un uc] 52)).alloc (Obj.cells #[Value.string { data := #[] }, Value.slice none 0 0] 52)).heap[w.heap.size + 1 + 1]? = some (.cells #[.string ⟨#[]⟩, .slice none 0 0] 52 (0, 0)) := by
    have := heap_alloc_new ((w.alloc (Obj.cells #[Value.string lb, Value.slice sa sn sc] 52)).alloc (Obj.cells #[Value.string ub, Value.slice ua un uc] 52)) (Obj.cells #[Value.string { data := #[] }, Value.slice none 0 0] 52)
    simpa using this
  have b0' := (HB2.out.block _ (by simp; omega)).trans b0
  have b1' := (HB2.out.block _ (by simp)).trans b1
  have b2' := (HB2.out.block _ (by simp)).trans b2
  have hz3 : w.heap.size + 1 + 1 < w1.heap.size := (Array.getElem?_eq_some_iff.1 b2').1
  have BB0 := Lib.hid b0'
  have BB1 := Lib.hid b1'
  have BB2 := Lib.hid b2'
  obtain ⟨y0, y1, _, _⟩ := two_cells b0'
  clear b0 b1 b2 b0' b1' b2'
  go_wp2_with (at_make; refine wpList_make_full _ rfl _ _ 50 rfl w1.heap.size 52 i0 (.agg #[.string ⟨#[]⟩, .slice none 0 0]) 2 Try.underlying50 hi0 hz hzs .i64 .i64 _ _ nn rfl rfl rfl rfl ?c1 ?c2 (Nat.le_refl _) ?_)
  case c1 => rw [hzb]; omega
  case c2 => unfold maxLen; omega
  intro w2 hown hg
  have hcur : ∃ cur : Array Value, w2.heap[w1.heap.size]? = some (.cells cur 52 (0, 0)) ∧ cur.size = nn * 2 ∧ ∀ j, j < nn → cur[j * 2]? = some (.string ⟨#[]⟩) ∧ cur[j * 2 + 1]? = some (.slice none 0 0) := by
    rcases hown.2 with ⟨e, _⟩ | ⟨G, cap', cur, e, _, hG, hnc, hcm, hcs, htake⟩
    · simp at e
    · simp only [Value.slice.injEq, Option.some.injEq, Addr.mk.injEq] at e
      obtain ⟨⟨rfl, _⟩, _, rfl⟩ := e
      refine ⟨cur, hG, hcs, fun j hj => ?_⟩
      have hall : cur.toList = (madeCells #[.string ⟨#[]⟩, .slice none 0 0] (nn * 2)).toList := by
        rw [List.take_of_length_le (by simp; omega)] at htake; exact htake
      have hall2 : cur = madeCells #[.string ⟨#[]⟩, .slice none 0 0] (nn * 2) := Array.toList_inj.1 hall
      rw [hall2]
      have m1 : j * 2 % 2 = 0 := by omega
      have m2 : (j * 2 + 1) % 2 = 1 := by omega
      constructor
      · rw [madeCells, Array.getElem?_map, Array.getElem?_range, if_pos (by omega)]
        simp [m1]
      · rw [madeCells, Array.getElem?_map, Array.getElem?_range, if_pos (by omega)]
        simp [m2]
  obtain ⟨cur, hcb, hcs, hcz⟩ := hcur
  have hbw2 : Below w1.heap.size w1 w2 := (Below.refl _ _).grown hg (by omega) (fun k e => by cases e)
  obtain ⟨x0, x1, _, _⟩ := two_cells ((hbw2.block _ (by omega)).trans BB0.out)
  obtain ⟨x2, x3, _, _⟩ := two_cells ((hbw2.block _ (by omega)).trans BB1.out)
  obtain ⟨x4, x5, x6, x7⟩ := two_cells ((hbw2.block _ hz3).trans BB2.out)
  have hk1 : w2.cell? ⟨w1.heap.size, k * 2, none⟩ = some (.string ⟨#[]⟩) := by rw [Lib.cell_of_heap hcb]; exact (hcz k hk).1
  have hk2 : w2.cell? ⟨w1.heap.size, k * 2 + 1, none⟩ = some (.slice none 0 0) := by rw [Lib.cell_of_heap hcb]; exact (hcz k hk).2
  have hk3 : w2.frozen? ⟨w1.heap.size, k * 2, none⟩ = false := Lib.frozen_of_heap hcb _
  have hk4 : w2.frozen? ⟨w1.heap.size, k * 2 + 1, none⟩ = false := Lib.frozen_of_heap hcb _
  have hlw2 : w1.heap.size < w2.heap.size := (Array.getElem?_eq_some_iff.1 hcb).1
  have HCB := Lib.hid hcb
  have HCS := Lib.hid hcs
  have HCZ := Lib.hid hcz
  have HBW2 := Lib.hid hbw2
  have hwle : w.heap.size + 1 + 1 + 1 ≤ w1.heap.size := by omega
  clear hown hg hcb hcs hcz hbw2
  have hset : ((w2.setCell ⟨w1.heap.size, k * 2, none⟩ (.string ub)).setCell ⟨w1.heap.size, k * 2 + 1, none⟩ (.slice ua un uc)).heap[w1.heap.size]? = some (.cells ((cur.setIfInBounds (k * 2) (.string ub)).setIfInBounds (k * 2 + 1) (.slice ua un uc)) 52 (0, 0)) := heap_setCell_same (heap_setCell_same HCB.out _) _
  have hBs : Below w.heap.size w ((w2.setCell ⟨w1.heap.size, k * 2, none⟩ (.string ub)).setCell ⟨w1.heap.size, k * 2 + 1, none⟩ (.slice ua un uc)) := (((below_step (below_step HB1.out HB2.out) HBW2.out)).setCell (by simp; omega) _).setCell (by simp; omega) _
  have hsz4 : ((w2.setCell ⟨w1.heap.size, k * 2, none⟩ (.string ub)).setCell ⟨w1.heap.size, k * 2 + 1, none⟩ (.slice ua un uc)).heap.size = w2.heap.size := by simp
  have HUS2 : Hid (RepSL ((w2.setCell ⟨w1.heap.size, k * 2, none⟩ (.string ub)).setCell ⟨w1.heap.size, k * 2 + 1, none⟩ (.slice ua un uc)) (fun b => (P b ∨ w1.heap.size ≤ b) ∧ b < w2.heap.size) (oneIn nn k u) w1.heap.size 0) := Lib.hid (by
    refine RepSL.of_get fun j hj => ?_
    have hj' : j < nn := by rw [oneIn_length] at hj; exact hj
    rw [Nat.zero_add, oneIn_get hj]
    have hcs := HCS.out
    by_cases e : k = j
    · subst e
      rw [if_pos rfl]
      refine ⟨.string ub, .slice ua un uc, ?_, ?_, (HRU.out.below huw hBs).keep (fun _ _ _ h => h) (fun b h _ => ⟨.inl h, by have := hP b h; omega⟩) huw⟩
      · rw [Lib.cell_of_heap hset, Array.getElem?_setIfInBounds, if_neg (by omega), Array.getElem?_setIfInBounds, if_pos rfl, if_pos (by omega)]
      · rw [Lib.cell_of_heap hset, Array.getElem?_setIfInBounds, if_pos rfl, if_pos (by simp; omega)]
    · rw [if_neg e]
      obtain ⟨z0, z1⟩ := HCZ.out j hj'
      refine ⟨.string ⟨#[]⟩, .slice none 0 0, ?_, ?_, by rw [RepS]; exact ⟨rfl, rfl⟩⟩
      · rw [Lib.cell_of_heap hset, Array.getElem?_setIfInBounds, if_neg (by omega), Array.getElem?_setIfInBounds, if_neg (by omega)]; exact z0
      · rw [Lib.cell_of_heap hset, Array.getElem?_setIfInBounds, if_neg (by omega), Array.getElem?_setIfInBounds, if_neg (by omega)]; exact z1)
  have HG0 := l1Whole_any t (.string lb) (.slice sa sn sc) (oneIn nn k u) w1.heap.size nn ((w2.setCell ⟨w1.heap.size, k * 2, none⟩ (.string ub)).setCell ⟨w1.heap.size, k * 2 + 1, none⟩ (.slice ua un uc)) (fun b => (P b ∨ w1.heap.size ≤ b) ∧ b < w2.heap.size) hw (oneIn_wf huw) (by rw [oneIn_length]; exact Nat.le_of_eq HNN.out.symm) (by rw [oneIn_length]; exact Nat.le_refl _) (by omega) (fun b hb => by rw [hsz4]; exact hb.2) ⟨.inr (Nat.le_refl _), hlw2⟩
    ((HR.out.below hw hBs).keep (fun _ _ _ h => h) (fun b h _ => ⟨.inl h, by have := hP b h; omega⟩) hw) HUS2.out
  rw [oneIn_length] at HG0
  have HG := Lib.hid HG0
  have HBS := Lib.hid hBs
  clear HG0 hset hBs
  go_wp2_with fail
  refine HG.out.mono ?_
  rintro e w5 ⟨hB5, kb, ka, kn, kc, rfl, hr5⟩
  have hzz : w5.heap[w.heap.size + 1 + 1]? = some (.cells #[.string ⟨#[]⟩, .slice none 0 0] 52 (0, 0)) := by
    rw [hB5.block _ (by rw [hsz4]; omega), Below.heap_setCell _ _ _ _ (by simp; omega), Below.heap_setCell _ _ _ _ (by simp; omega), HBW2.out.block _ hz3]
    exact BB2.out
  obtain ⟨r0, r1, fr0, fr1⟩ := two_cells hzz
  have hzl : w.heap.size + 1 + 1 < w5.heap.size := World.block_lt_of_cell? w5 _ r0
  have HB5 := Lib.hid hB5
  have HR5 := Lib.hid hr5
  have hBw : Below w.heap.size w ((w5.setCell ⟨w.heap.size + 1 + 1, 0, none⟩ (.string kb)).setCell ⟨w.heap.size + 1 + 1, 1, none⟩ (.slice ka kn kc)) := ((below_step HBS.out hB5).setCell (by simp; omega) _).setCell (by simp; omega) _
  have hks : Keeps (fun b => P b ∨ w.heap.size + 1 + 1 + 1 ≤ b) w5 ((w5.setCell ⟨w.heap.size + 1 + 1, 0, none⟩ (.string kb)).setCell ⟨w.heap.size + 1 + 1, 1, none⟩ (.slice ka kn kc)) := by
    intro q v hq hv
    rw [World.cell?_of_block (w := w5)]
    · exact hv
    · have : q.block ≠ w.heap.size + 1 + 1 := by
        rcases hq with h | h
        · have := hP _ h; omega
        · omega
      rw [Below.heap_setCell _ _ _ _ this, Below.heap_setCell _ _ _ _ this]
  have HF2 := Lib.hid (HR5.out.keep (P' := fun b => P b ∨ w.heap.size ≤ b) (Keeps.mono hks (fun b h => by rcases h with h | h; exact h.1.imp id (fun h => by omega); exact .inr (by rw [hsz4] at h; omega))) (fun b h _ => by rcases h with h | h; exact h.1.imp id (fun h => by omega); exact .inr (by rw [hsz4] at h; omega)) (fill_wf _ _ hw (oneIn_wf huw)))
  have HBW := Lib.hid hBw
  clear hB5 hr5 hzz hBw hks
  go_wp2_with fail
  refine bodyPost_ret (v := .agg #[.string kb, .slice ka kn kc]) (by simp [results, Try.results32, go_sem, r0, r1]) rfl ?_
  exact ⟨HBW.out, _, _, _, _, rfl, HF2.out⟩

/-- What is grafted. -/
def graftOf (a : List UInt8) (k : Int) (b : List UInt8) : Option T :=
  match parse a, parse b with
  | some t, some u => if 0 ≤ k ∧ k ≤ (t.leaves : Int) - 1 then some (t.fill (oneIn t.leaves k.toNat u)) else none
  | _, _ => none

def graftV : Option T → Value
  | none => .tuple #[.string ⟨#[]⟩, .bool false]
  | some t => doneV t

theorem graftOf_no {a b : List UInt8} {k : Int} (h : parse a = none) : graftOf a k b = none := by simp [graftOf, h]
theorem graftOf_no2 {a b : List UInt8} {k : Int} (h : parse b = none) : graftOf a k b = none := by
  cases ha : parse a <;> simp [graftOf, h, ha]
theorem graftOf_out {a b : List UInt8} {k : Int} {t : T} (ha : parse a = some t) (hk : ¬ (0 ≤ k ∧ k ≤ (t.leaves : Int) - 1)) : graftOf a k b = none := by
  cases hb : parse b with
  | none => exact graftOf_no2 hb
  | some u => simp only [graftOf, ha, hb]; rw [if_neg hk]
theorem graftOf_in {a b : List UInt8} {k : Nat} {t u : T} (ha : parse a = some t) (hb : parse b = some u) (hk : k < t.leaves) : graftOf a k b = some (t.fill (oneIn t.leaves k u)) := by
  simp only [graftOf, ha, hb]
  rw [if_pos (by omega), Int.toNat_natCast]

theorem doneV_shape (t : T) : ∃ x b, doneV t = .tuple #[.string x, .bool b] := by
  unfold doneV
  split
  · exact ⟨_, _, rfl⟩
  · exact ⟨_, _, rfl⟩

set_option maxRecDepth 100000 in
set_option maxHeartbeats 1000000 in
theorem iGraft_any (s : ByteArray) (k : Int) (s2 : ByteArray) (w : World) (hs : s.size ≤ 140737488351232) (hs2 : s2.size ≤ 140737488351232) :
    Calls Try.prog 9 #[.string s, .int .i64 k, .string s2] w (Ans (graftV (graftOf s.data.toList k s2.data.toList)) w) := by
  have HP2 : Hid (∀ w, Calls Try.prog 25 #[.string s2] w (RtPost s2 w)) := Lib.hid (fun w => readTree_any s2 w hs2)
  go_enter Try.func9, Try.ntmps9
  go_wp2_with fail
  refine (readTree_any s w hs).mono ?_
  rintro e w1 ⟨hB, ⟨hno, rfl⟩ | ⟨t, ty, a, hyes, rfl, hrep⟩⟩
  · have HN := Lib.hid (graftOf_no (b := s2.data.toList) (k := k) hno)
    clear hno
    go_wp2_with fail
    go_ret2
    exact ⟨by rw [HN.out]; rfl, hB⟩
  · obtain ⟨hw, htx, hl, hn⟩ := parse_some hyes
    clear htx
    have HN := Lib.hid hyes
    have HR := Lib.hid (hrep.keep (w' := w1) (P' := fun b => b < w1.heap.size) (fun _ _ _ h => h) (fun _ _ h => h) hw)
    clear hyes hrep
    obtain ⟨nn, hnn⟩ : ∃ nn, nn = t.leaves := ⟨_, rfl⟩
    have HNN := Lib.hid hnn
    have HW := Lib.hid hw
    by_cases h0 : k < 0
    · have HO := Lib.hid (graftOf_out (b := s2.data.toList) (k := k) HN.out (by omega))
      clear hnn
      go_wp2_with fail
      go_ret2
      exact ⟨by rw [HO.out]; rfl, hB⟩
    · obtain ⟨kn, rfl⟩ : ∃ kn : Nat, k = (kn : Int) := ⟨k.toNat, by omega⟩
      have hty : (t = .leaf ∧ ty = 78) ∨ (∃ c ks, t = .node c ks ∧ ty = 88) := by
        cases t with
        | leaf => have := HR.out; rw [RepI] at this; exact .inl ⟨rfl, this⟩
        | node c ks => have := HR.out; rw [RepI] at this; exact .inr ⟨c, ks, rfl, this.1⟩
      have HLF : Hid (∀ c ks, t = .node c ks → Calls Try.prog 79 #[.pointer (some a)] w1 (fun e w' => e = .returned (.int .i64 ((nn : Nat) : Int)) ∧ w1 = w')) := Lib.hid (by
        intro c ks ht
        subst ht
        have hq := HNN.out
        rw [T.leaves] at hq hl
        have hwk := hw
        rw [T.wf] at hwk
        exact (nodeLeaves_any _ c ks _ a w1 _ (Nat.le_refl _) hwk.2.2.2.2 (by omega) HR.out).mono (fun e w' h => ⟨by rw [h.1, hq]; simp, h.2⟩))
      have HLG : Hid (t = .leaf → Calls Try.prog 72 #[.pointer (some a)] w1 (fun e w' => e = .returned (.int .i64 ((nn : Nat) : Int)) ∧ w1 = w')) := Lib.hid (by
        intro ht
        exact (leafLeaves_any a w1).mono (fun e w' h => ⟨by rw [h.1, HNN.out, ht, T.leaves]; rfl, h.2⟩))
      have HOUT : Hid (¬ kn < nn → graftOf s.data.toList (kn : Int) s2.data.toList = none) := Lib.hid (fun h => graftOf_out HN.out (by rw [← HNN.out]; omega))
      have HIN : Hid (∀ u, parse s2.data.toList = some u → kn < nn → graftOf s.data.toList (kn : Int) s2.data.toList = some (t.fill (oneIn t.leaves kn u))) := Lib.hid (fun u hu h => graftOf_in HN.out hu (by rw [← HNN.out]; exact h))
      have hnb : nn ≤ 12 := by omega
      have HTN := Lib.hid (And.intro hl hn)
      clear hnn hl hn hw
      rcases hty with ⟨ht, rfl⟩ | ⟨c, ks, ht, rfl⟩
      all_goals
        first
          | (have HK := Lib.hid (HLG.out ht))
          | (have HK := Lib.hid (HLF.out c ks ht))
        clear ht
        by_cases hlt : kn < nn
        · go_wp2_with fail
          refine HK.out.mono ?_
          rintro e w2 ⟨rfl, rfl⟩
          go_wp2_with fail
          refine (HP2.out w1).mono ?_
          rintro e w2 ⟨hB2, ⟨hno, rfl⟩ | ⟨u, tyu, au, hyes, rfl, hrepu⟩⟩
          · have HNO := Lib.hid (graftOf_no2 (a := s.data.toList) (k := (kn : Int)) hno)
            clear hno
            go_wp2_with fail
            go_ret2
            exact ⟨by rw [HNO.out]; rfl, below_step hB hB2⟩
          · have hpu := parse_some hyes
            have HV := Lib.hid (HIN.out u hyes hlt)
            have HU := Lib.hid hpu
            have HG := Lib.hid (graftAt_any t kn u _ a tyu au w2 (fun b => b < w2.heap.size) HW.out hpu.1 (by have := HTN.out; omega) (by rw [← HNN.out]; exact hlt) (fun b h => h)
              ((HR.out.below HW.out hB2).keep (fun _ _ _ h => h) (fun b h hb => hb) HW.out) (hrepu.keep (w' := w2) (fun _ _ _ h => h) (fun b h hb => hb) hpu.1))
            have HFW := Lib.hid (fill_wf t (oneIn t.leaves kn u) HW.out (oneIn_wf hpu.1))
            have HFL := Lib.hid (fill_len (us := oneIn t.leaves kn u) HTN.out.1 HTN.out.2 (oneIn_size hpu.2.2.1 hpu.2.2.2))
            have HB2 := Lib.hid hB2
            clear hyes hrepu hpu hB2
            go_wp2_with fail
            refine HG.out.mono ?_
            rintro e w3 ⟨hB3, ty3, a3, rfl, hr3⟩
            have HBT := Lib.hid (boundedText_any _ ty3 a3 w3 _ HFW.out (by have := HFL.out; omega) (by have := HFL.out; omega) HFL.out.2.2 hr3)
            have HB3 := Lib.hid hB3
            obtain ⟨x, bb, hx⟩ := doneV_shape (t.fill (oneIn t.leaves kn u))
            rw [hx] at HBT
            have HX := Lib.hid hx
            clear hr3 hB3 hx
            go_wp2_with fail
            refine HBT.out.mono ?_
            rintro e w4 ⟨rfl, hB4⟩
            go_wp2_with fail
            go_ret2
            exact ⟨by rw [HV.out, graftV, HX.out]; rfl, below_step (below_step (below_step hB HB2.out) HB3.out) hB4⟩
        · have HNO := Lib.hid (HOUT.out hlt)
          go_wp2_with fail
          refine HK.out.mono ?_
          rintro e w2 ⟨rfl, rfl⟩
          go_wp2_with fail
          go_ret2
          exact ⟨by rw [HNO.out]; rfl, hB⟩
end Go.Proofs.Ytfflgjidapclkaa
