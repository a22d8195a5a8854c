/- The model: a tree in the place of a part. -/
import Derived.Test.YtbbkaephlojalaaKPartS
import Derived.Deep.AppendLies
import Derived.Deep.RegionLaw
namespace Go.Proofs.Ytbbkaephlojalaa
open Go.RowKit

/-- A tree is handed back, made of what came in and of new memory. -/
def NewSP (P : Nat → Prop) (t : T) (w : World) (e : Ending) (w' : World) : Prop :=
  Below w.heap.size w w' ∧ ∃ (lb : ByteArray) (sa : Option Addr) (sn sc : Nat), e = .returned (.agg #[.string lb, .slice sa sn sc]) ∧ RepS w' (fun b => P b ∨ w.heap.size ≤ b) t (.string lb) (.slice sa sn sc)

theorem grown_frozen' {w w' : World} {row : Option Nat} {a : Addr} {v : Value} (hg : w.grownBy w' row) (h : w.cell? a = some v) (hf : w.frozen? a = false) (hne : some a.block ≠ row) : w'.frozen? a = false :=
  (World.frozen?_of_block (hg.block a.block (World.block_lt_of_cell? w a h) hne)).trans hf

/-- What holds ahead of each round. -/
def ReplRel (P : Nat → Prop) (w : World) (c : UInt8) (v0 : Value) (lu su : Value) (acc : List T) (va : Option Addr) (vc : Nat) (xs : List Value) (wr : World) : Prop :=
  OutRel P (w.heap.size + 1 + 1 + 1 + 1) (w.heap.size + 1 + 1 + 1) c acc (.slice va acc.length vc) xs wr ∧
  wr.heap[w.heap.size]? = some (.cells #[.string ⟨#[c]⟩, v0] 39 (0, 0)) ∧
  wr.heap[w.heap.size + 1]? = some (.cells #[lu, su] 39 (0, 0)) ∧
  wr.heap[w.heap.size + 1 + 1]? = some (.cells #[.string ⟨#[]⟩, .slice none 0 0] 39 (0, 0)) ∧
  w.heap.size + 1 + 1 + 1 + 1 ≤ wr.heap.size ∧ Below w.heap.size w wr

/-- A kid more, whether it was made or taken as it lay. -/
theorem ReplRel.next {P : Nat → Prop} {w : World} {c : UInt8} {v0 lu su : Value} {acc : List T} {va : Option Addr} {vc : Nat} {xs : List Value} {wr w1 w1' w2 : World} {t : T} {lb : ByteArray} {sa : Option Addr} {sn sc g cap : Nat}
    (h : ReplRel P w c v0 lu su acc va vc xs wr) (hb1 : Below wr.heap.size wr w1) (hrep : RepS w1 (fun b => P b ∨ wr.heap.size ≤ b) t (.string lb) (.slice sa sn sc)) (htw : t.wf) (hb2 : Below w1.heap.size w1 w1')
    (hown : w2.ownsRow (w.heap.size + 1 + 1 + 1 + 1) 39 2 (.slice (some ⟨g, 0, none⟩) (acc.length + 1) cap) (acc.length + 1) (xs ++ [.string lb, .slice sa sn sc]))
    (hg : w1'.grownBy w2 (Value.slice va acc.length vc).ownBlock) (hf : (Value.slice va acc.length vc).ownBlock = some g ∨ w1.heap.size ≤ g) :
    ReplRel P w c v0 lu su (acc ++ [t]) (some ⟨g, 0, none⟩) cap (xs ++ [.string lb, .slice sa sn sc]) (w2.setCell ⟨w.heap.size + 1 + 1 + 1, 1, none⟩ (.slice (some ⟨g, 0, none⟩) (acc.length + 1) cap)) := by
  obtain ⟨ho, h0, h1, h2, hs, hB⟩ := h
  have hs1 := hb1.size
  have hs2 := hb2.size
  have hs3 := hg.size
  have hown0 := ho.2.2.2.1.lt
  have hblk : ∀ b, b < w.heap.size + 1 + 1 + 1 → (w2.setCell ⟨w.heap.size + 1 + 1 + 1, 1, none⟩ (.slice (some ⟨g, 0, none⟩) (acc.length + 1) cap)).heap[b]? = wr.heap[b]? := by
    intro b hb
    rw [Below.heap_setCell _ _ _ _ (by simp; omega), hg.block b (by omega) (fun e => by have := (hown0 b e.symm).1; omega), hb2.block _ (by omega), hb1.block b (by omega)]
  refine ⟨?_, (hblk _ (by omega)).trans h0, (hblk _ (by omega)).trans h1, (hblk _ (by omega)).trans h2, by simp; omega, ?_⟩
  · have := ho.next hs hb1 hrep htw hb2 hown hg hf
    rw [List.length_append]
    exact this
  · exact ((((hB.trans (hb1.mono (by omega))).trans (hb2.mono (by omega))).grown hg (by omega) (fun q e => by have := (hown0 q e).1; omega))).setCell (p := ⟨w.heap.size + 1 + 1 + 1, 1, none⟩) (by simp; omega) _

set_option maxRecDepth 100000 in
set_option maxHeartbeats 4000000 in
theorem l1Replace_any (m : Nat) : ∀ (t : T) (l s : Value) (k : Nat) (u : T) (lu su : Value) (w : World) (P : Nat → Prop), SizeOf.sizeOf t ≤ m → t.wf → u.wf → t.nodes < 1000000 → k < t.nodes → (∀ b, P b → b < w.heap.size) → RepS w P t l s → RepS w P u lu su →
    Calls Try.prog 47 #[.agg #[l, s], .int .i64 k, .agg #[lu, su]] w (NewSP P (t.putAt k u) w) := by
  induction m with
  | zero => intro t l s k u lu su w P h; cases t <;> simp at h <;> omega
  | succ m ih =>
    intro t l s k u lu su w P hn hwf huw hnd hk hP hr hru
    cases t with
    | leaf => rw [T.nodes] at hk; omega
    | node c ks =>
      have HR := Lib.hid hr
      have HRU := Lib.hid hru
      obtain ⟨ub, ua, un, uc, rfl, rfl⟩ := hru.shape'
      rw [RepS] at hr
      obtain ⟨rfl, g, cap, rfl, hPg, hk6, hL⟩ := hr
      have HWF := Lib.hid hwf
      rw [T.wf] at hwf
      have hwk := Lib.hid hwf.2.2.2.2
      have hk1' := hwf.2.2.1
      have HL := Lib.hid hL
      clear hL hwf hru
      by_cases h0 : k = 0
      · subst h0
        go_enter Try.func47, Try.ntmps47
        go_wp2_with fail
        refine bodyPost_ret (v := .agg #[.string ub, .slice ua un uc]) (by simp [results, Try.results47, go_sem]) rfl ?_
        have hb : Below w.heap.size w (((w.alloc (Obj.cells #[Value.string { data := #[c] }, Value.slice (some { block := g, off := 0 }) ks.length cap] 39)).alloc (Obj.cells #[Value.string ub, Value.slice ua un uc] 39)).alloc (Obj.cells #[Value.string ub, Value.slice ua un uc] 39)) := by go_grown
        refine ⟨hb, _, _, _, _, rfl, ?_⟩
        rw [T.putAt, if_pos rfl]
        exact (HRU.out.below huw hb).keep (fun _ _ _ h => h) (fun b h _ => .inl h) huw
      · have hk0 : ((k : Int) == 0) = false := by simpa using h0
        have hk1 : 1 ≤ k := by omega
        rw [T.nodes] at hk hnd
        have HK0 := Lib.hid h0
        clear h0
        go_enter Try.func47, Try.ntmps47
        go_wp2_with fail
        obtain ⟨i0, hi0, hz, hzs, hzb⟩ := info_parts info42
        have R0 : Hid (ReplRel P w c (.slice (some ⟨g, 0, none⟩) ks.length cap) (.string ub) (.slice ua un uc) ((T.putL ks (k - 1) u).take 0) none 0 [] ((((w.alloc (Obj.cells #[Value.string { data := #[c] }, Value.slice (some { block := g, off := 0 }) ks.length cap] 39)).alloc (Obj.cells #[Value.string ub, Value.slice ua un uc] 39)).alloc (Obj.cells #[Value.string { data := #[] }, Value.slice none 0 0] 39)).alloc (Obj.cells #[Value.string { data := #[c] }, Value.slice none 0 0] 39))) := Lib.hid (by
          have hst := OutRel.start (P := P) (base := w.heap.size + 1 + 1 + 1 + 1) (c := c) (w := ((w.alloc (Obj.cells #[Value.string { data := #[c] }, Value.slice (some { block := g, off := 0 }) ks.length cap] 39)).alloc (Obj.cells #[Value.string ub, Value.slice ua un uc] 39)).alloc (Obj.cells #[Value.string { data := #[] }, Value.slice none 0 0] 39)) (by simp) (fun b hb => by have := hP b hb; first | (simp; done) | (simp; omega))
          refine ⟨by simpa using hst, ?_, ?_, ?_, by simp, by go_grown⟩
          · rw [Below.heap_alloc _ _ _ (by first | (simp; done) | (simp; omega)), Below.heap_alloc _ _ _ (by first | (simp; done) | (simp; omega)), Below.heap_alloc _ _ _ (by simp)]; exact heap_alloc_new w _
          · rw [Below.heap_alloc _ _ _ (by first | (simp; done) | (simp; omega)), Below.heap_alloc _ _ _ (by simp)]
            have := heap_alloc_new (w.alloc (Obj.cells #[Value.string { data := #[c] }, Value.slice (some { block := g, off := 0 }) ks.length cap] 39)) (Obj.cells #[Value.string ub, Value.slice ua un uc] 39)
            simpa using this
          · rw [Below.heap_alloc _ _ _ (by simp)]
            have := heap_alloc_new ((w.alloc (Obj.cells #[Value.string { data := #[c] }, Value.slice (some { block := g, off := 0 }) ks.length cap] 39)).alloc (Obj.cells #[Value.string ub, Value.slice ua un uc] 39)) (Obj.cells #[Value.string { data := #[] }, Value.slice none 0 0] 39)
            simpa using this)
        go_loopw [1, 8] (fun kv iv wr => ∃ (i : Nat) (va : Option Addr) (vc : Nat) (xs : List Value), i ≤ ks.length ∧ kv = .int .i64 ((k : Int) - 1 - (T.nodesL (ks.take i) : Nat)) ∧ iv = .int .i64 i ∧
            ReplRel P w c (.slice (some ⟨g, 0, none⟩) ks.length cap) (.string ub) (.slice ua un uc) ((T.putL ks (k - 1) u).take i) va vc xs wr) (fun _ iv _ => ks.length - (intOf iv).toNat)
        case atStart => exact ⟨0, none, 0, [], Nat.zero_le _, by simp [T.nodesL], rfl, R0.out⟩
        case round =>
          obtain ⟨i, va, vc, xs, hi, rfl, rfl, hrel⟩ := hrel
          have hlen : ((T.putL ks (k - 1) u).take i).length = i := by rw [List.length_take, putL_length]; omega
          have HLT := Lib.hid hlen
          have HREL := Lib.hid hrel
          obtain ⟨ho, hb0, hb1, hb2, hsz, hB⟩ := hrel
          obtain ⟨c0, c1, _, _⟩ := two_cells hb0
          obtain ⟨e0, e1, _, _⟩ := two_cells hb1
          obtain ⟨r0, r1, fr0, fr1⟩ := two_cells hb2
          obtain ⟨o0, o1, fo0, fo1⟩ := two_cells ho.1
          rw [hlen] at o1
          have HO := Lib.hid ho
          have HB0 := Lib.hid hb0
          have HB1 := Lib.hid hb1
          have HB2 := Lib.hid hb2
          obtain ⟨K, hK⟩ : ∃ K : Int, K = (k : Int) - 1 - (T.nodesL (ks.take i) : Nat) := ⟨_, rfl⟩
          rw [← hK]
          have HK := Lib.hid hK
          have hle0 := nodesL_take_le (ks := ks) i
          have hKb : -1000000 ≤ K ∧ K ≤ 1000000 := by omega
          clear ho hb0 hb1 hb2 hlen hK
          by_cases hlt : i < ks.length
          · obtain ⟨l', s', d1, d2, d3⟩ := HL.out.get i hlt
            rw [Nat.zero_add] at d1 d2
            obtain ⟨kb, ka, kn, kc, rfl, rfl⟩ := d3.shape'
            have hwi := wfL_get hwk.out i hlt
            have hle := nodesL_take_le (ks := ks) (i + 1)
            rw [nodesL_take hlt] at hle
            have hd : SizeOf.sizeOf ks[i] < SizeOf.sizeOf ks := List.sizeOf_lt_of_mem (List.getElem_mem hlt)
            simp only [T.node.sizeOf_spec] at hn
            have hni : (ks[i]).nodes < 1000000 := by omega
            have HTN := Lib.hid (nodesL_take hlt)
            have d1' : wr.cell? ⟨g, i * 2, none⟩ = some (.string kb) := keep1 hB d1
            have d2' : wr.cell? ⟨g, i * 2 + 1, none⟩ = some (.slice ka kn kc) := keep1 hB d2
            have HD := Lib.hid (d3.below hwi hB)
            have HN := Lib.hid (l1Nodes_any _ ks[i] _ _ wr P (Nat.le_refl _) hwi hni HD.out)
            have HRUr := Lib.hid (HRU.out.below huw hB)
            clear d1 d2 d3
            go_wp2_with fail
            refine HN.out.mono ?_
            rintro e w1 ⟨rfl, hw1⟩
            have hs1 := hw1.size
            have o1' := keep1 hw1 o1
            have fo1' := keepf hw1 o1 fo1
            have c1' := keep1 hw1 c1
            have e0' := keep1 hw1 e0
            have e1' := keep1 hw1 e1
            have q1 := keep1 hw1 d1'
            have q2 := keep1 hw1 d2'
            have hown0 := Lib.hid HO.out.2.2.2.1.lt
            have HQ : Hid (∀ b, b < w.heap.size + 1 + 1 + 1 + 1 → some b ≠ (Value.slice va i vc).ownBlock) := Lib.hid (fun b hb e => by have := (hown0.out b (by rw [HLT.out]; exact e.symm)).1; omega)
            have HOWN : Hid (w1.drew.ownsRow (w.heap.size + 1 + 1 + 1 + 1) 39 2 (.slice va i vc) i xs) := Lib.hid (by
              have := owns_below HO.out.2.2.2.1 hw1
              rw [HLT.out] at this
              exact this)
            have hg1 : g < w1.heap.size := World.block_lt_of_cell? w1 _ q1
            have hgo : g < w.heap.size := hP g hPg
            by_cases hin : T.nodesL (ks.take i) ≤ k - 1 ∧ k - 1 < T.nodesL (ks.take i) + (ks[i]).nodes
            · obtain ⟨kk, hkk⟩ : ∃ kk, kk = k - 1 - T.nodesL (ks.take i) := ⟨_, rfl⟩
              have hKk : K = (kk : Int) := by have := HK.out; omega
              subst hKk
              have hkn : (kk : Int) < (ks[i]).nodes := by omega
              have HI := Lib.hid (ih ks[i] (.string kb) (.slice ka kn kc) kk u (.string ub) (.slice ua un uc) w1.drew P (by omega) hwi huw hni (by omega) (fun b hb => by have := hP b hb; have := hB.size; simp; omega) ((HD.out.below hwi hw1).below hwi (Below.refl _ _).drew) ((HRUr.out.below huw hw1).below huw (Below.refl _ _).drew))
              have hput := putAt_wf ks[i] kk u hwi huw
              have HKK := Lib.hid hkk
              have KEQ : Hid ((kk : Int) - (ks[i]).nodes = (k : Int) - 1 - ((T.nodesL (ks.take i) + (ks[i]).nodes : Nat) : Int)) := Lib.hid (by omega)
              clear ih hd hkk
              go_wp2_with fail
              go_region_law (first
                | (refine step_append_lies _ (by rfl) _ _ 37 (by rfl) (w.heap.size + 1 + 1 + 1 + 1) 39 i0 (.agg #[.string ⟨#[]⟩, .slice none 0 0]) 2 40 Try.underlying37 hi0 hz hzs hzb rfl (by decide) (.slice va i vc) i xs (by rfl) ((owns_below HOWN.out hb2).alloc (.cells #[.string lb, .slice sa sn sc] 39 (0, 0))) ⟨w2.heap.size, 0, none⟩ 1 1 [.string lb, .slice sa sn sc] (by rfl) (by rfl) (cells_two rfl _ _) (by simp [Value.oneCell']) (by decide) (by unfold maxLen; omega) (by omega) (by simp; omega) (w2.heap.size + 1) (by simp) ?_; intro gg cap' w3 hown3 hg3 hf3 hlt3; have y1 := hg3.cell (a := ⟨w.heap.size + 1 + 1 + 1, 1, none⟩) (v := .slice va i vc) (keep1 ((Below.refl _ _).alloc (Nat.le_refl _) _) x1) (HQ.out _ (by simp)); have y2 := grown_frozen' (a := ⟨w.heap.size + 1 + 1 + 1, 1, none⟩) (v := .slice va i vc) hg3 (keep1 ((Below.refl _ _).alloc (Nat.le_refl _) _) x1) (keepf (v := .slice va i vc) ((Below.refl _ _).alloc (Nat.le_refl _) _) x1 x5) (HQ.out _ (by simp)))
                | (go_simp; go_at_call 47; refine HI.out.mono ?_; rintro e w2 ⟨hb2, lb, sa, sn, sc, rfl, hrep⟩; have x1 := keep1 (w := w1.drew) hb2 o1'; have x2 := keep1 (w := w1.drew) hb2 c1'; have x3 := keep1 (w := w1.drew) hb2 e0'; have x3' := keep1 (w := w1.drew) hb2 e1'; have x4 := keep1 (w := w1.drew) hb2 q1; have x4' := keep1 (w := w1.drew) hb2 q2; have x5 := keepf (w := w1.drew) (v := .slice va i vc) hb2 o1' fo1'; have x6 : w.heap.size + 1 + 1 + 1 < w2.heap.size := World.block_lt_of_cell? w2 _ x1; have x7 : w.heap.size < w2.heap.size := World.block_lt_of_cell? w2 _ x2; have x8 : g < w2.heap.size := World.block_lt_of_cell? w2 _ x4; have x9 : w.heap.size + 1 < w2.heap.size := World.block_lt_of_cell? w2 _ x3))
              all_goals
                have hs3 := hg3.size
                have NX := HREL.out.next (w1 := w2) (t := ((ks[i]).putAt kk u)) (((Below.refl _ _).trans hw1).trans ((Below.refl _ _).drew.trans (hb2.mono (by simp; omega)))) (hrep.keep (fun _ _ _ h => h) (fun b h _ => by rcases h with h | h; exact .inl h; exact .inr (by simp at h; omega)) hput) hput ((Below.refl _ _).alloc (Nat.le_refl _) (.cells #[.string lb, .slice sa sn sc] 39 (0, 0))) (by rw [HLT.out]; exact hown3) (by rw [HLT.out]; exact hg3) (by rw [HLT.out]; rcases hf3 with h | h; exact .inl h; exact .inr (by first | omega | (simp at h ⊢; omega)))
                rw [HLT.out] at NX
                have NX2 : ReplRel P w c (.slice (some ⟨g, 0, none⟩) ks.length cap) (.string ub) (.slice ua un uc) ((T.putL ks (k - 1) u).take (i + 1)) (some ⟨gg, 0, none⟩) cap' (xs ++ [.string lb, .slice sa sn sc]) (w3.setCell ⟨w.heap.size + 1 + 1 + 1, 1, none⟩ (.slice (some ⟨gg, 0, none⟩) (i + 1) cap')) := by
                  rw [List.take_succ_eq_append_getElem (by rw [putL_length]; exact hlt), putL_get ks (k - 1) u i hlt, if_pos hin, ← HKK.out]
                  exact NX
                have NXX := Lib.hid NX2
                clear NX NX2 hown3 hg3 hf3
                go_wp2_with fail
                go_roundw
                case rel => exact ⟨i + 1, some ⟨gg, 0, none⟩, cap', _, by omega, by rw [HTN.out, ← KEQ.out], by go_num, NXX.out⟩
                case measure => first | (simp [intOf]; done) | (simp [intOf]; omega)
            · have hnk : K < 0 ∨ ((0 : Int) ≤ K ∧ ((ks[i]).nodes : Int) ≤ K) := by have := HK.out; omega
              have KEQ : Hid (K - (ks[i]).nodes = (k : Int) - 1 - ((T.nodesL (ks.take i) + (ks[i]).nodes : Nat) : Int)) := Lib.hid (by have := HK.out; omega)
              have b31 : w1.drew.cell? ⟨w.heap.size + 1 + 1 + 1, 1, none⟩ = some (.slice va i vc) := o1'
              have bf3 : w1.drew.frozen? ⟨w.heap.size + 1 + 1 + 1, 1, none⟩ = false := fo1'
              have z1 : w.heap.size + 1 + 1 + 1 < w1.heap.size := World.block_lt_of_cell? w1 _ o1'
              have z2 : w.heap.size < w1.heap.size := by omega
              clear ih hd
              rcases hnk with hK0 | ⟨hK0, hKn⟩
              · have hd0 : decide ((0 : Int) ≤ K) = false := decide_eq_false (by omega)
                go_wp2_with fail
                go_region_law (first
                  | (refine step_append_lies _ (by rfl) _ _ 37 (by rfl) (w.heap.size + 1 + 1 + 1 + 1) 39 i0 (.agg #[.string ⟨#[]⟩, .slice none 0 0]) 2 40 Try.underlying37 hi0 hz hzs hzb rfl (by decide) (.slice va i vc) i xs (by rfl) (HOWN.out.alloc (.cells #[.string kb, .slice ka kn kc] 39 (0, 0))) ⟨w1.drew.heap.size, 0, none⟩ 1 1 [.string kb, .slice ka kn kc] (by rfl) (by rfl) (cells_two rfl _ _) (by simp [Value.oneCell']) (by decide) (by unfold maxLen; omega) (by omega) (by simp; omega) (w1.drew.heap.size + 1) (by simp) ?_; intro gg cap' w3 hown3 hg3 hf3 hlt3; have y1 := hg3.cell (a := ⟨w.heap.size + 1 + 1 + 1, 1, none⟩) (v := .slice va i vc) (keep1 ((Below.refl _ _).alloc (Nat.le_refl _) _) b31) (HQ.out _ (by simp)); have y2 := grown_frozen' (a := ⟨w.heap.size + 1 + 1 + 1, 1, none⟩) (v := .slice va i vc) hg3 (keep1 ((Below.refl _ _).alloc (Nat.le_refl _) _) b31) (keepf (v := .slice va i vc) ((Below.refl _ _).alloc (Nat.le_refl _) _) b31 bf3) (HQ.out _ (by simp))))
                all_goals
                  have hs3 := hg3.size
                  have NX := HREL.out.next (w1 := w1.drew) (t := (ks[i])) (((Below.refl _ _).trans hw1).drew) ((HD.out.below hwi (hw1.drew)).keep (fun _ _ _ h => h) (fun b h _ => .inl h) hwi) hwi ((Below.refl _ _).alloc (Nat.le_refl _) (.cells #[.string kb, .slice ka kn kc] 39 (0, 0))) (by rw [HLT.out]; exact hown3) (by rw [HLT.out]; exact hg3) (by rw [HLT.out]; rcases hf3 with h | h; exact .inl h; exact .inr (by first | omega | (simp at h ⊢; omega)))
                  rw [HLT.out] at NX
                  have NX2 : ReplRel P w c (.slice (some ⟨g, 0, none⟩) ks.length cap) (.string ub) (.slice ua un uc) ((T.putL ks (k - 1) u).take (i + 1)) (some ⟨gg, 0, none⟩) cap' (xs ++ [.string kb, .slice ka kn kc]) (w3.setCell ⟨w.heap.size + 1 + 1 + 1, 1, none⟩ (.slice (some ⟨gg, 0, none⟩) (i + 1) cap')) := by
                    rw [List.take_succ_eq_append_getElem (by rw [putL_length]; exact hlt), putL_get ks (k - 1) u i hlt, if_neg hin]
                    exact NX
                  have NXX := Lib.hid NX2
                  clear NX NX2 hown3 hg3 hf3
                  go_wp2_with fail
                  go_roundw
                  case rel => exact ⟨i + 1, some ⟨gg, 0, none⟩, cap', _, by omega, by rw [HTN.out, ← KEQ.out], by go_num, NXX.out⟩
                  case measure => first | (simp [intOf]; done) | (simp [intOf]; omega)
              · have hd0 : decide (K < ((ks[i]).nodes : Int)) = false := decide_eq_false (by omega)
                go_wp2_with fail
                go_region_law (first
                  | (refine step_append_lies _ (by rfl) _ _ 37 (by rfl) (w.heap.size + 1 + 1 + 1 + 1) 39 i0 (.agg #[.string ⟨#[]⟩, .slice none 0 0]) 2 40 Try.underlying37 hi0 hz hzs hzb rfl (by decide) (.slice va i vc) i xs (by rfl) (HOWN.out.alloc (.cells #[.string kb, .slice ka kn kc] 39 (0, 0))) ⟨w1.drew.heap.size, 0, none⟩ 1 1 [.string kb, .slice ka kn kc] (by rfl) (by rfl) (cells_two rfl _ _) (by simp [Value.oneCell']) (by decide) (by unfold maxLen; omega) (by omega) (by simp; omega) (w1.drew.heap.size + 1) (by simp) ?_; intro gg cap' w3 hown3 hg3 hf3 hlt3; have y1 := hg3.cell (a := ⟨w.heap.size + 1 + 1 + 1, 1, none⟩) (v := .slice va i vc) (keep1 ((Below.refl _ _).alloc (Nat.le_refl _) _) b31) (HQ.out _ (by simp)); have y2 := grown_frozen' (a := ⟨w.heap.size + 1 + 1 + 1, 1, none⟩) (v := .slice va i vc) hg3 (keep1 ((Below.refl _ _).alloc (Nat.le_refl _) _) b31) (keepf (v := .slice va i vc) ((Below.refl _ _).alloc (Nat.le_refl _) _) b31 bf3) (HQ.out _ (by simp))))
                all_goals
                  have hs3 := hg3.size
                  have NX := HREL.out.next (w1 := w1.drew) (t := (ks[i])) (((Below.refl _ _).trans hw1).drew) ((HD.out.below hwi (hw1.drew)).keep (fun _ _ _ h => h) (fun b h _ => .inl h) hwi) hwi ((Below.refl _ _).alloc (Nat.le_refl _) (.cells #[.string kb, .slice ka kn kc] 39 (0, 0))) (by rw [HLT.out]; exact hown3) (by rw [HLT.out]; exact hg3) (by rw [HLT.out]; rcases hf3 with h | h; exact .inl h; exact .inr (by first | omega | (simp at h ⊢; omega)))
                  rw [HLT.out] at NX
                  have NX2 : ReplRel P w c (.slice (some ⟨g, 0, none⟩) ks.length cap) (.string ub) (.slice ua un uc) ((T.putL ks (k - 1) u).take (i + 1)) (some ⟨gg, 0, none⟩) cap' (xs ++ [.string kb, .slice ka kn kc]) (w3.setCell ⟨w.heap.size + 1 + 1 + 1, 1, none⟩ (.slice (some ⟨gg, 0, none⟩) (i + 1) cap')) := by
                    rw [List.take_succ_eq_append_getElem (by rw [putL_length]; exact hlt), putL_get ks (k - 1) u i hlt, if_neg hin]
                    exact NX
                  have NXX := Lib.hid NX2
                  clear NX NX2 hown3 hg3 hf3
                  go_wp2_with fail
                  go_roundw
                  case rel => exact ⟨i + 1, some ⟨gg, 0, none⟩, cap', _, by omega, by rw [HTN.out, ← KEQ.out], by go_num, NXX.out⟩
                  case measure => first | (simp [intOf]; done) | (simp [intOf]; omega)
          · have hii : i = ks.length := by omega
            have HII := Lib.hid hii
            clear ih hii
            go_wp2_with fail
            refine bodyPost_ret (v := .agg #[.string ⟨#[c]⟩, .slice va i vc]) (by simp [results, Try.results47, go_sem, r0, r1]) rfl ?_
            refine ⟨(hB.setCell (by simp; omega) _).setCell (by simp; omega) _, _, _, _, _, rfl, ?_⟩
            have hfull : (T.putL ks (k - 1) u).take i = T.putL ks (k - 1) u := by rw [HII.out, ← putL_length ks (k - 1) u, List.take_length]
            have ho := HO.out
            rw [HLT.out] at ho
            have hrep := ho.rep (w2 := (wr.setCell ⟨w.heap.size + 1 + 1, 0, none⟩ (.string ⟨#[c]⟩)).setCell ⟨w.heap.size + 1 + 1, 1, none⟩ (.slice va i vc)) (by rw [HLT.out]; omega) (by rw [HLT.out]; omega) (by
              intro q v hq hv
              rw [World.cell?_of_block (w := wr)]
              · exact hv
              · have : q.block ≠ w.heap.size + 1 + 1 := by
                  rcases hq with h | h
                  · have := hP _ h; omega
                  · omega
                rw [Below.heap_setCell _ _ _ _ this, Below.heap_setCell _ _ _ _ this])
            rw [T.putAt, if_neg HK0.out]
            rw [hfull] at hrep
            refine hrep.keep (fun _ _ _ h => h) (fun b h _ => by rcases h with h | h; exact .inl h; exact .inr (by omega)) ?_
            have := putAt_wf (.node c ks) k u HWF.out huw
            rw [T.putAt, if_neg HK0.out] at this
            exact this
end Go.Proofs.Ytbbkaephlojalaa
