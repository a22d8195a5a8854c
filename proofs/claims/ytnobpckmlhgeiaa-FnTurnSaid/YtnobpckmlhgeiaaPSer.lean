/- The promises on series: what is drawn. -/
import Derived.Test.YtnobpckmlhgeiaaLawSer
import Derived.Test.YtnobpckmlhgeiaaSerX
import Derived.Test.YtnobpckmlhgeiaaKPick
namespace Go.Proofs.Ytnobpckmlhgeiaa
open Go.RowKit

/-- A list of numbers is drawn. -/
def DrSer (R : Nat) (a : Option Addr) (cap : Nat) (bs : List Nat) (p n : Nat) (w : World) (e : Ending) (w' : World) : Prop :=
  (∃ m x c f, e = .returned (.slice (some ⟨x, 0, none⟩) m c) ∧ m ≤ 8 ∧ w.heap.size ≤ x ∧ NumR w' x m f) ∧ w.grownBy w' (some R) ∧ RdR w' R a cap bs (p + n)

theorem numVals_snoc (n : Nat) (f : Nat → Int) (v : Int) : numVals n f ++ [.int .i64 v] = numVals (n + 1) (fun j => if j = n then v else f j) := by
  unfold numVals
  rw [List.range_succ, List.map_append]
  congr 1
  · apply List.map_congr_left
    intro j hj
    show Value.int .i64 (f j) = Value.int .i64 (if j = n then v else f j)
    rw [if_neg (by have := List.mem_range.1 hj; omega)]
  · simp

set_option maxRecDepth 100000 in
set_option maxHeartbeats 2000000 in
theorem l92Series_any (R : Nat) (a : Option Addr) (cap p n : Nat) (z : Int) (bs : List Nat) (w : World) (hz : z = (n : Int)) (h : RdR w R a cap bs p) (hp : p ≤ 100000) (hn : 1 ≤ n) (hn2 : n ≤ 8) :
    Calls Try.prog 51 #[.pointer (some ⟨R, 0, none⟩), .int .i64 z] w (DrSer R a cap bs p n w) := by
  obtain ⟨i0, hi0, hz0, hzs, hzb⟩ := info_parts infoNum
  have hRl := h.cells.2.2.2
  have HRD0 : Hid (RdR (w.alloc (.cells #[.int .i64 1] 3)) R a cap bs p) := Lib.hid (h.grown (row := none) (World.grownBy_alloc w _ none) (fun r e => by cases e))
  have HO0 : Hid ((w.alloc (.cells #[.int .i64 1] 3)).ownsRow w.heap.size 3 1 (.slice (some ⟨w.heap.size, 0, none⟩) 1 1) 1 (numVals 1 (fun _ => 1))) := Lib.hid (World.ownsRow_lit w #[.int .i64 1] 1 (Nat.le_refl _) (by simp [maxLen]) rfl)
  have HG0 : Hid (w.grownBy (w.alloc (.cells #[.int .i64 1] 3)) (some R)) := Lib.hid (World.grownBy_alloc w _ _)
  subst hz
  clear h
  go_enter Try.func51, Try.ntmps51
  go_wp2_with fail
  go_loopw [5, 6] (fun sv iv wr => ∃ (i g c : Nat) (f : Nat → Int), 1 ≤ i ∧ i ≤ n ∧ iv = .int .i64 i ∧ sv = .slice (some ⟨g, 0, none⟩) i c ∧ w.heap.size ≤ g ∧ wr.ownsRow w.heap.size 3 1 (.slice (some ⟨g, 0, none⟩) i c) i (numVals i f) ∧ RdR wr R a cap bs (p + i - 1) ∧ w.grownBy wr (some R)) (fun _ iv _ => n - (intOf iv).toNat)
  case atStart => exact ⟨1, w.heap.size, 1, fun _ => 1, Nat.le_refl _, hn, rfl, rfl, Nat.le_refl _, HO0.out, HRD0.out, HG0.out⟩
  case round =>
    obtain ⟨i, g, c, f, hi1, hi, rfl, rfl, hgw, hown, hrd, hgr⟩ := hrel
    have HO := Lib.hid hown
    have HRD := Lib.hid hrd
    have HG := Lib.hid hgr
    have hsr := hgr.size
    clear hown hrd hgr
    by_cases hlt : i < n
    · have HPK := Lib.hid (pick_any R a cap (p + i - 1) 9 bs wr HRD.out (by omega) (by omega) (by omega))
      go_wp2_with fail
      refine HPK.out.mono ?_
      rintro e w2 ⟨⟨k, hk, rfl⟩, hg2, hs2, hr2⟩
      have hs2b := Nat.le_of_eq hs2.symm
      clear hs2
      have HO2 := Lib.hid (owns_kept_some HO.out hg2 hRl)
      have HR2 := Lib.hid hr2
      have HG2 := Lib.hid (HG.out.trans hg2)
      clear hg2 hr2
      have hw1 : IntKind.i64.wrap ((k : Int) - 4) = (k : Int) - 4 := by rw [IntKind.wrap_i64]; omega
      have HOA : Hid ((w2.alloc (.cells #[.int .i64 ((k : Int) - 4)] 3)).ownsRow w.heap.size 3 1 (.slice (some ⟨g, 0, none⟩) i c) i (numVals i f)) := Lib.hid (HO2.out.alloc _)
      go_wp2_with (at_builtin; refine wpList_append_new _ rfl _ _ 22 rfl w.heap.size 3 i0 (.int .i64 0) 1 8 Try.underlying22 hi0 hz0 hzs hzb rfl (by decide) _ _ _ rfl HOA.out ⟨w2.heap.size, 0, none⟩ 1 1 [.int .i64 ((k : Int) - 4)] (by decide) rfl rfl (cells_one rfl _) ?c3 ?c4 ?c5 ?c6 ?_)
      case c3 => intro u hu; simp only [List.mem_singleton] at hu; subst hu; rfl
      case c4 => unfold maxLen; omega
      case c5 => omega
      case c6 => simp; omega
      intro g3 c3 w3 hown3 hg3 hor
      have HO3 : Hid (w3.ownsRow w.heap.size 3 1 (.slice (some ⟨g3, 0, none⟩) (i + 1) c3) (i + 1) (numVals (i + 1) (fun j => if j = i then (k : Int) - 4 else f j))) := Lib.hid (by rw [← numVals_snoc]; exact hown3)
      have hg3w : w.heap.size ≤ g3 := by
        have := HG2.out.size
        rcases hor with e | e
        · simp only [Value.ownBlock, Option.some.injEq] at e; omega
        · first | omega | (simp at e; omega)
      have HRD3 : Hid (RdR w3 R a cap bs (p + (i + 1) - 1)) := Lib.hid (by
        have e : p + (i + 1) - 1 = p + i - 1 + 1 := by omega
        rw [e]
        exact (HR2.out.grown (row := none) (World.grownBy_alloc w2 _ none) (fun r e => by cases e)).grown hg3 (fun r e => by simp only [Value.ownBlock, Option.some.injEq] at e; omega))
      have HG3 : Hid (w.grownBy w3 (some R)) := Lib.hid (by
        have h1 : w.grownBy (w2.alloc (.cells #[.int .i64 ((k : Int) - 4)] 3)) (some R) := HG2.out.trans (World.grownBy_alloc w2 _ _)
        exact ⟨hg3.os.trans h1.os, hg3.tape.trans h1.tape, hg3.output.trans h1.output, Nat.le_trans h1.size hg3.size, fun b hb hne => by
          rw [hg3.block b (Nat.lt_of_lt_of_le hb h1.size) (fun e => by simp only [Value.ownBlock, Option.some.injEq] at e; omega)]
          exact h1.block b hb hne⟩)
      clear hown3 hg3 hor
      go_wp2_with fail
      exact ⟨⟨i + 1, g3, c3, _, by omega, by omega, by go_num, rfl, hg3w, HO3.out, HRD3.out, HG3.out⟩, by simp [intOf]; omega⟩
    · have hin : i = n := by omega
      have HPK := Lib.hid (pick_any R a cap (p + i - 1) 24 bs wr HRD.out (by omega) (by omega) (by omega))
      have HPN : Hid (p + i - 1 + 1 = p + n) := Lib.hid (by omega)
      clear hin
      go_wp2_with fail
      refine HPK.out.mono ?_
      rintro e w2 ⟨⟨k, hk, rfl⟩, hg2, hs2, hr2⟩
      have hs2b := Nat.le_of_eq hs2.symm
      clear hs2
      rw [HPN.out] at hr2
      have HO2 := owns_kept_some HO.out hg2 hRl
      have hnr := (NumR.of_owns HO2 (f := f) (fun j hj => numVals_get hj)).1
      have HNR := Lib.hid hnr
      have HR2 := Lib.hid hr2
      have HG2 := Lib.hid (HG.out.trans hg2)
      have hsz2 := HG2.out.size
      clear hg2 hr2 HO2
      by_cases hk0 : k = 0
      · subst hk0
        clear hnr
        go_wp2_with fail
        go_ret
        refine ⟨⟨0, w2.heap.size, 0, fun _ => 0, rfl, by omega, by omega, ⟨#[], heap_alloc_new _ _, by simp, fun j hj => by omega⟩⟩, HG2.out.trans (World.grownBy_alloc w2 _ _), HR2.out.grown (row := none) (World.grownBy_alloc w2 _ none) (fun r e => by cases e)⟩
      · by_cases hk1 : k = 1
        · subst hk1
          have c0 := hnr.cell (j := 0) (by omega)
          have f0 := hnr.frozen 0
          have hgl := hnr.lt
          have hg3 : w2.grownBy (w2.setCell ⟨g, 0, none⟩ (.int .i64 2)) (some g) := grownBy_setCell (grownBy_refl _ _) _
          have HNR3 := Lib.hid (hnr.put (k := 0) 2)
          have HR3 : Hid (RdR (w2.setCell ⟨g, 0, none⟩ (.int .i64 2)) R a cap bs (p + n)) := Lib.hid (HR2.out.grown hg3 (fun r e => by simp only [Option.some.injEq] at e; omega))
          have HG3 : Hid (w.grownBy (w2.setCell ⟨g, 0, none⟩ (.int .i64 2)) (some R)) := Lib.hid (by
            have h1 := HG2.out
            exact ⟨hg3.os.trans h1.os, hg3.tape.trans h1.tape, hg3.output.trans h1.output, Nat.le_trans h1.size hg3.size, fun b hb hne => by
              rw [hg3.block b (Nat.lt_of_lt_of_le hb h1.size) (fun e => by simp only [Option.some.injEq] at e; omega)]
              exact h1.block b hb hne⟩)
          clear hnr hg3
          go_wp2_with fail
          go_ret
          exact ⟨⟨_, g, c, _, rfl, by omega, hgw, HNR3.out⟩, HG3.out, HR3.out⟩
        · have hk0' : ((k : Int) == 0) = false := by simpa using (show (k : Int) ≠ 0 by omega)
          have hk1' : ((k : Int) == 1) = false := by simpa using (show (k : Int) ≠ 1 by omega)
          clear hnr
          go_wp2_with fail
          go_ret
          exact ⟨⟨_, g, c, f, rfl, by omega, hgw, HNR.out⟩, HG2.out, HR2.out⟩

end Go.Proofs.Ytnobpckmlhgeiaa
