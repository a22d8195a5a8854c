/- The order of trees by the program, with one word more: it only draws and lays new blocks behind. For the sort. -/
import Derived.Test.YtoeebipahifpcaaGreatKOrdI
import Derived.Test.YtoeebipahifpcaaGreatSumM
import Derived.Shelf.SlSortCmp.WholeK
import Derived.Shelf.SlSortCmp.NoneTotal
namespace Go.Proofs.YtoeebipahifpcaaGreat
open Go.RowKit Go.Sort

/-- Draws, and new blocks behind. -/
def Grew (w w' : World) : Prop := ∃ (q : Nat) (os : Array Obj), w' = grow (w.drewN q) os

theorem Grew.refl (w : World) : Grew w w := ⟨0, #[], by simp [grow, World.drewN]⟩
theorem Grew.trans {a b c : World} (h : Grew a b) (k : Grew b c) : Grew a c := by
  obtain ⟨q, os, rfl⟩ := h
  obtain ⟨q', os', rfl⟩ := k
  refine ⟨q + q', os ++ os', ?_⟩
  simp [grow, World.drewN, Array.append_assoc, Nat.add_assoc]
theorem Grew.new (w : World) (o : Obj) : Grew w (w.alloc o) := ⟨0, #[o], by rw [alloc_eq_grow]; rfl⟩
theorem Grew.alloc {a b : World} (h : Grew a b) (o : Obj) : Grew a (b.alloc o) := h.trans (Grew.new b o)
theorem Grew.drew {a b : World} (h : Grew a b) : Grew a b.drew := h.trans ⟨1, #[], by show b.drew = { b.drewN 1 with heap := (b.drewN 1).heap ++ #[] }; rw [Array.append_empty]; rfl⟩
theorem Grew.drewN {a b : World} (h : Grew a b) (n : Nat) : Grew a (b.drewN n) := h.trans ⟨n, #[], by simp [grow, World.drewN]⟩
theorem Grew.below {w w' : World} (h : Grew w w') : Below w.heap.size w w' := by
  obtain ⟨q, os, rfl⟩ := h
  refine ⟨rfl, rfl, rfl, by simp [grow, World.drewN], fun k hk => ?_⟩
  show (w.heap ++ os)[k]? = _
  rw [Array.getElem?_append_left hk]

def AnsG (v : Value) (w : World) (e : Ending) (w' : World) : Prop := e = .returned v ∧ Grew w w'

set_option maxRecDepth 100000 in
set_option maxHeartbeats 1000000 in
theorem compareWays_grew (a b : List UInt8) (w : World) :
    Calls Tryz.prog 93 #[.string ⟨a.toArray⟩, .string ⟨b.toArray⟩] w (AnsG (.int .i64 (wordCmp a b)) w) := by
  have hsa : (⟨a.toArray⟩ : ByteArray).size = a.length := by simp [ByteArray.size]
  have hsb : (⟨b.toArray⟩ : ByteArray).size = b.length := by simp [ByteArray.size]
  obtain ⟨z0, hz0⟩ : ∃ z0, z0 = cmpI a.length b.length := ⟨_, rfl⟩
  obtain ⟨z1, hz1⟩ : ∃ z1, z1 = Lib.compareBytes a b := ⟨_, rfl⟩
  have H0 : Hid (∀ w, Calls Tryz.prog 91 #[.int .i64 (a.length : Int), .int .i64 (b.length : Int)] w fun e w' => e = .returned (.int .i64 z0) ∧ w' = w) := Lib.hid (fun w => by rw [hz0]; exact cmpInt_any _ _ w)
  have H1 : Hid (∀ w, Calls Tryz.prog 94 #[.string ⟨a.toArray⟩, .string ⟨b.toArray⟩] w fun e w' => e = .returned (.int .i64 z1) ∧ w' = w) := Lib.hid (fun w => by rw [hz1]; exact stringsCompare_any _ _ w)
  have HV : Hid (wordCmp a b = orI [z0, z1]) := Lib.hid (by rw [hz0, hz1, wordCmp])
  have H2 := Lib.hid (cmpOr_any [z0, z1] 2 rfl w.heap.size 2 (w.alloc (.cells #[.int .i64 z0, .int .i64 z1] 3)) (by omega) (Ints.new w [z0, z1]))
  clear hz0 hz1
  go_enter Tryz.func93, Tryz.ntmps93
  go_wp2_with (first
    | (go_at_call 91; refine (H0.out _).mono ?_; rintro e w' ⟨rfl, rfl⟩)
    | (go_at_call 94; refine (H1.out _).mono ?_; rintro e w' ⟨rfl, rfl⟩)
    | (go_at_call 90; refine H2.out.mono ?_; rintro e w' ⟨rfl, rfl⟩))
  go_ret
  exact ⟨by rw [HV.out]; rfl, (Grew.refl _).alloc _⟩

set_option maxRecDepth 100000 in
set_option maxHeartbeats 1000000 in
theorem compareFunc_grew (ps qs : List (List UInt8)) (n m : Nat) (hn : n = ps.length) (hm : m = qs.length) (a b : Option Addr) (ca cb : Nat) (w : World) (hn2 : n ≤ 1000000) (_hm2 : m ≤ 1000000) (ha : Lies w a ps) (hb : Lies w b qs) :
    Calls Tryz.prog 92 #[.slice a n ca, .slice b m cb, .func (.func 93) #[] #[]] w (AnsG (.int .i64 (rowCmp ps qs)) w) := by
  have HA := Lib.hid ha
  have HB := Lib.hid hb
  have HNN := Lib.hid hn
  have HMM := Lib.hid hm
  clear ha hb hn hm
  go_enter Tryz.func92, Tryz.ntmps92
  go_wp2_with fail
  go_loopw [13] (fun iv wr => ∃ k : Nat, k ≤ n ∧ k ≤ m ∧ iv = .int .i64 k ∧ rowCmp ps qs = rowCmp (ps.drop k) (qs.drop k) ∧ Grew w wr) (fun iv _ => n - (intOf iv).toNat)
  case atStart => exact ⟨0, Nat.zero_le _, Nat.zero_le _, rfl, by rw [List.drop_zero, List.drop_zero], Grew.refl _⟩
  case round =>
    obtain ⟨k, hk, hkm, rfl, ho, hG⟩ := hrel
    have hB := hG.below
    have HO := Lib.hid ho
    have HG := Lib.hid hG
    clear ho hG
    by_cases hlt : k < n
    · have hlt' : k < ps.length := by rw [← HNN.out]; exact hlt
      obtain ⟨g, rfl, c1⟩ := (HA.out.below hB) k hlt'
      by_cases hltm : k < m
      · have hltm' : k < qs.length := by rw [← HMM.out]; exact hltm
        obtain ⟨g', rfl, c2⟩ := (HB.out.below hB) k hltm'
        obtain ⟨z, hz⟩ : ∃ z, z = wordCmp ps[k] qs[k] := ⟨_, rfl⟩
        have HZ := Lib.hid hz
        have HC := compareWays_grew ps[k] qs[k] wr
        rw [← hz] at HC
        have HC := Lib.hid HC
        clear hz
        by_cases h0 : z = 0
        · have HN : Hid (rowCmp ps qs = rowCmp (ps.drop (k + 1)) (qs.drop (k + 1))) := Lib.hid (by rw [HO.out, rowCmp_at hlt' hltm', if_pos (by rw [← HZ.out]; exact h0)])
          subst h0
          go_wp2_with fail
          refine HC.out.mono ?_
          rintro e w1 ⟨rfl, hG1⟩
          have HG1 := Lib.hid (HG.out.trans hG1)
          clear hG1
          go_wp2_with fail
          go_roundw
          case rel => exact ⟨k + 1, by omega, by omega, by go_num, HN.out, HG1.out⟩
          case measure => simp [intOf]; omega
        · have HN : Hid (rowCmp ps qs = z) := Lib.hid (by rw [HO.out, rowCmp_at hlt' hltm', if_neg (by rw [← HZ.out]; exact h0), HZ.out])
          go_wp2_with fail
          refine HC.out.mono ?_
          rintro e w1 ⟨rfl, hG1⟩
          have HG1 := Lib.hid (HG.out.trans hG1)
          clear hG1
          go_wp2_with fail
          go_ret
          exact ⟨by rw [HN.out]; rfl, HG1.out⟩
      · have HN : Hid (rowCmp ps qs = 1) := Lib.hid (by rw [HO.out, rowCmp_long hlt' (by have := HMM.out; omega)])
        go_wp2_with fail
        go_ret
        exact ⟨by rw [HN.out]; rfl, HG.out⟩
    · by_cases hnm : n < m
      · have HN : Hid (rowCmp ps qs = -1) := Lib.hid (by rw [HO.out, rowCmp_short (by have := HNN.out; omega) (by have := HMM.out; omega)])
        go_wp2_with fail
        go_ret
        exact ⟨by rw [HN.out]; rfl, HG.out⟩
      · have HN : Hid (rowCmp ps qs = 0) := Lib.hid (by rw [HO.out, rowCmp_done (by have := HNN.out; omega) (by have := HMM.out; omega)])
        go_wp2_with fail
        go_ret
        exact ⟨by rw [HN.out]; rfl, HG.out⟩

set_option maxRecDepth 100000 in
set_option maxHeartbeats 2000000 in
theorem compare_grew (ps qs : List (List UInt8)) (n m : Nat) (hn : n = ps.length) (hm : m = qs.length) (s u : List UInt8) (a b : Option Addr) (ca cb : Nat) (w : World) (hn2 : n ≤ 1000000) (hm2 : m ≤ 1000000) (ha : Lies w a ps) (hb : Lies w b qs) :
    Calls Tryz.prog 80 #[.agg #[.slice a n ca, .string ⟨s.toArray⟩], .agg #[.slice b m cb, .string ⟨u.toArray⟩]] w (AnsG (.int .i64 (ordCmp ps s qs u)) w) := by
  obtain ⟨z0, hz0⟩ : ∃ z0, z0 = cmpI n m := ⟨_, rfl⟩
  obtain ⟨z1, hz1⟩ : ∃ z1, z1 = rowCmp ps qs := ⟨_, rfl⟩
  obtain ⟨z2, hz2⟩ : ∃ z2, z2 = Lib.compareBytes s u := ⟨_, rfl⟩
  have H0 : Hid (∀ w, Calls Tryz.prog 91 #[.int .i64 (n : Int), .int .i64 (m : Int)] w fun e w' => e = .returned (.int .i64 z0) ∧ w = w') := Lib.hid (fun w => by rw [hz0]; exact (cmpInt_any _ _ w).mono (fun e w' h => ⟨h.1, h.2.symm⟩))
  have H2 : Hid (∀ w, Calls Tryz.prog 94 #[.string ⟨s.toArray⟩, .string ⟨u.toArray⟩] w fun e w' => e = .returned (.int .i64 z2) ∧ w = w') := Lib.hid (fun w => by rw [hz2]; exact (stringsCompare_any _ _ w).mono (fun e w' h => ⟨h.1, h.2.symm⟩))
  have hbA : Below w.heap.size w ((w.alloc (.cells #[.slice a n ca, .string ⟨s.toArray⟩] 115 (0, 0))).alloc (.cells #[.slice b m cb, .string ⟨u.toArray⟩] 115 (0, 0))).drew := (((Below.refl _ _).alloc (Nat.le_refl _) _).alloc (by simp) _).drew
  have HGA : Hid (Grew w ((w.alloc (.cells #[.slice a n ca, .string ⟨s.toArray⟩] 115 (0, 0))).alloc (.cells #[.slice b m cb, .string ⟨u.toArray⟩] 115 (0, 0))).drew) := Lib.hid (((Grew.refl _).alloc _).alloc _).drew
  have H1 : Hid (Calls Tryz.prog 92 #[.slice a n ca, .slice b m cb, .func (.func 93) #[] #[]] ((w.alloc (.cells #[.slice a n ca, .string ⟨s.toArray⟩] 115 (0, 0))).alloc (.cells #[.slice b m cb, .string ⟨u.toArray⟩] 115 (0, 0))).drew
      (AnsG (.int .i64 z1) ((w.alloc (.cells #[.slice a n ca, .string ⟨s.toArray⟩] 115 (0, 0))).alloc (.cells #[.slice b m cb, .string ⟨u.toArray⟩] 115 (0, 0))).drew)) := Lib.hid (by
    rw [hz1]; exact compareFunc_grew ps qs n m hn hm a b ca cb _ hn2 hm2 (ha.below hbA) (hb.below hbA))
  have H3 := Lib.hid (fun (w' : World) => cmpOr_any [z0, z1, z2] 3 rfl w'.heap.size 3 (w'.alloc (.cells #[.int .i64 z0, .int .i64 z1, .int .i64 z2] 3)) (by omega) (Ints.new w' [z0, z1, z2]) |>.mono (R' := fun e w'' => e = .returned (.int .i64 (orI [z0, z1, z2])) ∧ (w'.alloc (.cells #[.int .i64 z0, .int .i64 z1, .int .i64 z2] 3)) = w'') (fun e w' h => ⟨h.1, h.2.symm⟩))
  have HV : Hid (ordCmp ps s qs u = orI [z0, z1, z2]) := Lib.hid (by rw [hz0, hz1, hz2, ordCmp, hn, hm])
  have hx0 : ((w.alloc (.cells #[.slice a n ca, .string ⟨s.toArray⟩] 115 (0, 0))).alloc (.cells #[.slice b m cb, .string ⟨u.toArray⟩] 115 (0, 0))).drew.heap[w.heap.size]? = some (.cells #[.slice a n ca, .string ⟨s.toArray⟩] 115 (0, 0)) := by
    show ((w.alloc (.cells #[.slice a n ca, .string ⟨s.toArray⟩] 115 (0, 0))).alloc (.cells #[.slice b m cb, .string ⟨u.toArray⟩] 115 (0, 0))).heap[w.heap.size]? = _
    rw [Below.heap_alloc _ _ _ (by simp)]; exact heap_alloc_new w _
  have hx1 : ((w.alloc (.cells #[.slice a n ca, .string ⟨s.toArray⟩] 115 (0, 0))).alloc (.cells #[.slice b m cb, .string ⟨u.toArray⟩] 115 (0, 0))).drew.heap[w.heap.size + 1]? = some (.cells #[.slice b m cb, .string ⟨u.toArray⟩] 115 (0, 0)) := by
    show ((w.alloc (.cells #[.slice a n ca, .string ⟨s.toArray⟩] 115 (0, 0))).alloc (.cells #[.slice b m cb, .string ⟨u.toArray⟩] 115 (0, 0))).heap[w.heap.size + 1]? = _
    have := heap_alloc_new (w.alloc (.cells #[.slice a n ca, .string ⟨s.toArray⟩] 115 (0, 0))) (.cells #[.slice b m cb, .string ⟨u.toArray⟩] 115 (0, 0))
    simpa using this
  obtain ⟨b0, b1, _, _⟩ := two_cells hx0
  obtain ⟨b2, b3, _, _⟩ := two_cells hx1
  clear hz0 hz1 hz2 hbA hx0 hx1 ha hb hn hm
  go_enter Tryz.func80, Tryz.ntmps80
  go_wp2_with fail
  go_region_held3 (fun w' => w'.cell? ⟨w.heap.size, 0, none⟩ = some (.slice a n ca) ∧ w'.cell? ⟨w.heap.size, 1, none⟩ = some (.string ⟨s.toArray⟩) ∧ w'.cell? ⟨w.heap.size + 1, 0, none⟩ = some (.slice b m cb) ∧ w'.cell? ⟨w.heap.size + 1, 1, none⟩ = some (.string ⟨u.toArray⟩))
    (first | exact ⟨b0, b1, b2, b3⟩ | exact ⟨d0, d1, d2, d3⟩ | exact ⟨cell_new d0, cell_new d1, cell_new d2, cell_new d3⟩)
    (first
    | (go_at_call 91; refine (H0.out _).mono ?_; rintro e w' ⟨rfl, rfl⟩)
    | (go_at_call 94; refine (H2.out _).mono ?_; rintro e w' ⟨rfl, rfl⟩)
    | (go_at_call 92; refine H1.out.mono ?_; rintro e w1 ⟨rfl, hG1⟩; have hB1 := hG1.below; have d0 := keep1 hB1 b0; have d1 := keep1 hB1 b1; have d2 := keep1 hB1 b2; have d3 := keep1 hB1 b3; have HG1 := Lib.hid hG1; clear hB1 hG1)
    | (go_at_call 90; refine (H3.out w1).mono ?_; rintro e w' ⟨rfl, rfl⟩))
  all_goals
    go_wp2_with fail
    go_ret
    exact ⟨by rw [HV.out]; rfl, (HGA.out.trans HG1.out).alloc _⟩
end Go.Proofs.YtoeebipahifpcaaGreat
