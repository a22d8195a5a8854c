/- Merged out of: XSumRJ, XLawSumV, XLawSumL. -/
import Derived.Test.YtoeebipahifpcaaGreatSumRI
import Derived.Test.YtoeebipahifpcaaGreatKSumA
import Derived.Laws.EntriesVeiled
import Derived.Test.YtoeebipahifpcaaGreatKStrT
section
/- The program reads a sum; SumValid. -/
namespace Go.Proofs.YtoeebipahifpcaaGreat
open Go.RowKit

theorem _root_.Go.World.size_alloc' (w : World) (o : Obj) : (w.alloc o).heap.size = w.heap.size + 1 := by simp

/-- What 'readSum' answers. -/
def RSum (xs : List (Int × ByteArray)) (w : World) (e : Ending) (w' : World) : Prop :=
  Below w.heap.size w w' ∧ ((sumOf xs = none ∧ e = .returned (.tuple #[.agg #[.nilFunc, .slice none 0 0], .bool false])) ∨
    ∃ ps g c, sumOf xs = some ps ∧ e = .returned (.tuple #[.agg #[.func (.func 66) #[] #[], .slice (some ⟨g, 0, none⟩) ps.length c], .bool true]) ∧ Rd tmI w' (fun _ => True) (some ⟨g, 0, none⟩) ps)

set_option maxRecDepth 100000 in
set_option maxHeartbeats 4000000 in
theorem readSum_of (xs : List (Int × ByteArray)) (n : Nat) (a : Option Addr) (cap : Nat) (w : World) (hrt : ∀ W : World, Below w.heap.size w W → Calls Tryz.prog 85 #[.slice a n cap, .int .i64 1, .int .i64 100] W (RTm 1 100 xs W)) :
    Calls Tryz.prog 75 #[.slice a n cap] w (RSum xs w) := by
  have HRT := Lib.hid hrt
  clear hrt
  go_enter Tryz.func75, Tryz.ntmps75
  go_wp2_with fail
  refine (HRT.out _ ((Below.refl _ _).alloc (Nat.le_refl _) _)).mono ?_
  rintro e w1 ⟨hB, hres⟩
  have hB1 : Below w.heap.size w w1 := ((Below.refl _ _).alloc (Nat.le_refl _) _).trans (hB.mono (by simp))
  have HBX := Lib.hid ((hB.block w.heap.size (by simp)).trans (heap_alloc_new w (.cells #[.nilFunc, .slice none 0 0] 123 (0, 0))))
  have HB1 := Lib.hid hB1
  have hsz : w.heap.size < w1.heap.size := by have := hB.size; simp at this; omega
  clear hB hB1
  rcases hres with ⟨hno, rfl⟩ | ⟨ps, gq, c, hyes, rfl, hrd⟩
  · have HN := Lib.hid (sum_not_terms hno)
    obtain ⟨r0, r1, f0, f1⟩ := two_cells HBX.out
    clear hno
    go_wp2_with fail
    refine bodyPost_ret (v := .tuple #[.agg #[.nilFunc, .slice none 0 0], .bool false]) (by simp [results, Tryz.results75, go_sem, r0, r1]) rfl ?_
    exact ⟨(HB1.out.setCell (by simp) _).setCell (by simp) _, .inl ⟨HN.out, rfl⟩⟩
  · have HY := Lib.hid hyes
    have HRD := Lib.hid hrd
    have HOK := Lib.hid (termsOf_ok hyes)
    obtain ⟨N, hN⟩ : ∃ N, N = ps.length := ⟨_, rfl⟩
    have HNN := Lib.hid hN
    have hN60 : N ≤ 60 := by have := HOK.out; omega
    rw [← hN]
    clear hyes hrd hN
    go_wp2_with fail
    go_loopw [6] (fun iv wr => ∃ k : Nat, 1 ≤ k ∧ (k ≤ N ∨ k = 1) ∧ iv = .int .i64 k ∧ (∀ i (h : i + 1 < ps.length), i + 1 < k → 0 < ordT (ps[i]).2 (ps[i + 1]).2) ∧ Below w1.heap.size w1 wr) (fun iv _ => N - (intOf iv).toNat)
    case atStart => exact ⟨1, by omega, .inr rfl, rfl, fun i _ h => by omega, Below.refl _ _⟩
    case round =>
      obtain ⟨k, hk1, hkN, rfl, hadj, hB⟩ := hrel
      have HADJ := Lib.hid hadj
      have HBC := Lib.hid hB
      have HX := Lib.hid ((hB.block w.heap.size hsz).trans HBX.out)
      obtain ⟨r0, r1, f0, f1⟩ := two_cells HX.out
      have hszr : w.heap.size < wr.heap.size := by have := hB.size; omega
      clear hadj
      by_cases hlt : k < N
      · obtain ⟨j, hj⟩ : ∃ j : Nat, j = k - 1 := ⟨_, rfl⟩
        have HJ := Lib.hid hj
        have hkw : IntKind.i64.wrap ((k : Int) - 1) = (j : Int) := by rw [IntKind.wrap_i64]; omega
        have hkw2 : IntKind.i64.wrap (j : Int) = (j : Int) := by rw [IntKind.wrap_i64]; omega
        have hj0 : (0 : Int) ≤ (j : Int) := by omega
        have hk0 : (0 : Int) ≤ (k : Int) := by omega
        have hjN : (j : Int) < (N : Int) := by omega
        have hjN' : j < N := by omega
        have hjp : j < ps.length := by have := HNN.out; omega
        have hkp : k < ps.length := by have := HNN.out; omega
        have hrdr := (HRD.out.weak (P' := fun _ => True) (by decide) (fun _ _ _ => trivial)).below (by decide) hB
        obtain ⟨gv, x, y, z, e1, _, _, x1, x2, x3, hxw, hxr⟩ := tmI.get hrdr j hjp
        cases e1
        obtain ⟨gv', x', y', z', e2, _, _, y1, y2, y3, hyw, hyr⟩ := tmI.get hrdr k hkp
        cases e2
        have hd := fun (W : World) (hb : Below wr.heap.size wr W) => descending_grew (ps[j]).2 (ps[k]).2 (fun _ => True) x y z x' y' z' W (by have := (HOK.out.2.2.tree _ (List.getElem_mem hjp)).2.1; omega) (by have := (HOK.out.2.2.tree _ (List.getElem_mem hkp)).2.1; omega) (hxr.below hxw hb) (hyr.below hyw hb)
        obtain ⟨q, hq⟩ : ∃ q, q = ordT (ps[k]).2 (ps[j]).2 := ⟨_, rfl⟩
        rw [← hq] at hd
        have HD := Lib.hid hd
        have HQ := Lib.hid hq
        clear hd hq hxr hyr hrdr hj hB
        by_cases hq0 : 0 ≤ q
        all_goals
          first | (have hqt : decide (0 ≤ q) = true := decide_eq_true hq0) | (have hqt : decide (0 ≤ q) = false := decide_eq_false hq0)
          go_wp2_with fail
          go_region_held3 (fun w' => w'.cell? ⟨gq, j * 4 + 1, none⟩ = some x ∧ w'.cell? ⟨gq, j * 4 + 2, none⟩ = some y ∧ w'.cell? ⟨gq, j * 4 + 3, none⟩ = some z ∧ w'.cell? ⟨gq, k * 4 + 1, none⟩ = some x' ∧ w'.cell? ⟨gq, k * 4 + 2, none⟩ = some y' ∧ w'.cell? ⟨gq, k * 4 + 3, none⟩ = some z')
            (first | exact ⟨x1, x2, x3, y1, y2, y3⟩ | exact ⟨p1, p2, p3, p4, p5, p6⟩)
            (first
            | (go_at_call 66; refine (HD.out _ (Below.refl _ _).drew).mono ?_; rintro e w2 ⟨rfl, hG⟩; have hB2' : Below wr.heap.size wr w2 := (Below.refl _ _).drew.trans hG.below; have p1 := keep1 hB2' x1; have p2 := keep1 hB2' x2; have p3 := keep1 hB2' x3; have p4 := keep1 hB2' y1; have p5 := keep1 hB2' y2; have p6 := keep1 hB2' y3; have s0 := keep1 hB2' r0; have s1 := keep1 hB2' r1; have g0 := keepf hB2' r0 f0; have g1 := keepf hB2' r1 f1; have HC1 := Lib.hid (below_step HBC.out hB2'); clear hG hB2'))
          all_goals
            first
            | (have HN : Hid (sumOf xs = none) := Lib.hid (sum_not_desc HY.out (fun hd => by
                 have h2 := adj_of_desc hd j (by have := HNN.out; have := HJ.out; omega)
                 have h3 := HQ.out
                 have h4 : j + 1 = k := by have := HJ.out; omega
                 subst h4
                 rw [isCmp_ordT.anti (ps[j]).2 (ps[j + 1]).2] at h3
                 omega))
               go_wp2_with fail
               refine bodyPost_ret (v := .tuple #[.agg #[.nilFunc, .slice none 0 0], .bool false]) (by simp [results, Tryz.results75, go_sem, s0, s1]) rfl ?_
               exact ⟨((below_step HB1.out HC1.out).setCell (by simp) _).setCell (by simp) _, .inl ⟨HN.out, rfl⟩⟩)
            | (go_wp2_with fail
               go_roundw
               case rel => exact ⟨k + 1, by omega, .inl (by omega), by go_num, fun i h hi => by
                   by_cases e : i + 1 = k
                   · have h4 : i = j := by have := HJ.out; omega
                     subst h4
                     have h3 := HQ.out
                     have h5 : ps[k] = ps[i + 1] := by congr 1; exact e.symm
                     rw [h5, isCmp_ordT.anti (ps[i]).2 (ps[i + 1]).2] at h3
                     omega
                   · exact HADJ.out i h (by omega), HC1.out⟩
               case measure => simp [intOf]; omega)
      · have HS : Hid (sumOf xs = some ps) := Lib.hid (sum_of_terms HY.out (desc_of_adj ps (fun i hi => HADJ.out i hi (by have := HNN.out; omega))))
        go_wp2_with fail
        refine bodyPost_ret (v := .tuple #[.agg #[.func (.func 66) #[] #[], (.slice (some ⟨gq, 0, none⟩) N c)], .bool true]) (by simp [results, Tryz.results75, go_sem, r0, r1]) rfl ?_
        have hBf := ((below_step HB1.out HBC.out).setCell (p := ⟨w.heap.size, 0, none⟩) (by simp) (.func (.func 66) #[] #[])).setCell (p := ⟨w.heap.size, 1, none⟩) (by simp) (.slice (some ⟨gq, 0, none⟩) N c)
        refine ⟨hBf, .inr ⟨ps, gq, c, HS.out, by rw [HNN.out], ?_⟩⟩
        refine (HRD.out.below (by decide) HBC.out).keep (by decide) (fun q u hq hu => ?_) (fun _ _ _ => trivial)
        have hne : q.block ≠ w.heap.size := by
          intro e
          have h2 : (w.alloc (.cells #[.nilFunc, .slice none 0 0] 123 (0, 0))).heap.size ≤ q.block := hq
          rw [e, World.size_alloc'] at h2
          omega
        rw [World.cell?_of_block (w := wr)]
        · exact hu
        · rw [Below.heap_setCell _ _ _ _ hne, Below.heap_setCell _ _ _ _ hne]
theorem readSum_any (xs : List (Int × ByteArray)) (n : Nat) (hnx : n = xs.length) (g cap : Nat) (w : World) (hn : n ≤ 1048576) (hz : ∀ j (h : j < xs.length), (xs[j]).2.size ≤ 1048576) (hl : TermL w g xs) :
    Calls Tryz.prog 75 #[.slice (some ⟨g, 0, none⟩) n cap] w (RSum xs w) :=
  readSum_of xs n _ cap w (fun W hb => readTerms_any 1 100 xs n hnx g cap W hn hz (hl.below hb))

set_option maxRecDepth 100000 in
theorem iSumValid_any (xs : List (Int × ByteArray)) (n : Nat) (hnx : n = xs.length) (g cap : Nat) (w : World) (hn : n ≤ 1048576) (hz : ∀ j (h : j < xs.length), (xs[j]).2.size ≤ 1048576) (hl : TermL w g xs) :
    Calls Tryz.prog 57 #[.slice (some ⟨g, 0, none⟩) n cap] w (Ans (.bool (sumOf xs).isSome) w) := by
  have HR := Lib.hid (readSum_any xs n hnx g cap w hn hz hl)
  clear hnx hz hl
  go_enter Tryz.func57, Tryz.ntmps57
  go_wp2_with fail
  refine HR.out.mono ?_
  rintro e w1 ⟨hB, ⟨hno, rfl⟩ | ⟨ps, a, c, hyes, rfl, hrd⟩⟩
  · have HN := Lib.hid hno
    clear hno
    go_wp2_with fail
    go_ret
    exact ⟨by rw [HN.out]; rfl, hB.alloc hB.size _⟩
  · have HN := Lib.hid hyes
    clear hyes hrd
    go_wp2_with fail
    go_ret
    exact ⟨by rw [HN.out]; rfl, hB.alloc hB.size _⟩

end Go.Proofs.YtoeebipahifpcaaGreat
end
section
/- SumValid: the law; the helpers of every law whose argument is a list of terms. -/
namespace Go.Proofs.YtoeebipahifpcaaGreat
open Go.RowKit

theorem toTm_n {ys : List (Int × ByteArray)} {a : Option Addr} {cap n : Nat} (hnn : n = ys.length) (hn2 : ys.length ≤ 1048576) (w : World) (hh : TermO w a ys) :
    Calls Tryz.prog 22 #[.slice a n cap] w (CopyTerm ys n w) := by
  subst hnn
  exact toTermS_any ys a cap w hn2 hh

end Go.Proofs.YtoeebipahifpcaaGreat
end
section
/- SumLead by the program and by the model, and its law. -/
namespace Go.Proofs.YtoeebipahifpcaaGreat
open Go.RowKit

/-- The first term of a sum that is not 0. -/
def leadOf (xs : List (Int × ByteArray)) : Option (Int × ByteArray) := if (sumOf xs).isSome then xs.head? else none

theorem leadOf_no {xs : List (Int × ByteArray)} (h : (sumOf xs).isSome = false) : leadOf xs = none := by rw [leadOf, h]; rfl
theorem leadOf_yes {xs : List (Int × ByteArray)} (h0 : 0 < xs.length) (h : (sumOf xs).isSome = true) : leadOf xs = some (xs[0]) := by
  rw [leadOf, h]
  cases xs with
  | nil => simp at h0
  | cons x xs => rfl

def leadV : Option (Int × ByteArray) → Value
  | none => .tuple #[.agg #[.int .i64 0, .string ⟨#[]⟩], .bool false]
  | some y => .tuple #[.agg #[.int .i64 y.1, .string y.2], .bool true]

def LeadPost (xs : List (Int × ByteArray)) (w : World) (e : Ending) (w' : World) : Prop := Below w.heap.size w w' ∧ e = .returned (leadV (leadOf xs))

theorem leadV_shape (o : Option (Int × ByteArray)) : ∃ x s b, leadV o = .tuple #[.agg #[.int .i64 x, .string s], .bool b] := by
  cases o with
  | none => exact ⟨_, _, _, rfl⟩
  | some y => exact ⟨_, _, _, rfl⟩

end Go.Proofs.YtoeebipahifpcaaGreat
end
