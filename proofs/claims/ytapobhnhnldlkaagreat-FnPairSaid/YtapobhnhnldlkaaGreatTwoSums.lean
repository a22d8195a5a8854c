/- The program reads two sums; is a sum 0, and how many leaves have its trees. -/
import Derived.Test.YtapobhnhnldlkaaGreatKSumRJ
import Derived.Test.YtapobhnhnldlkaaGreatKBndX
import Derived.Deep.RegionHeld3
namespace Go.Proofs.YtapobhnhnldlkaaGreat
open Go.RowKit

/-- What 'readSum' answers, in new memory. -/
def RSumN (xs : List (Int × ByteArray)) (w : World) (e : Ending) (w' : World) : Prop :=
  Below w.heap.size w w' ∧ ((sumOf xs = none ∧ e = .returned (.tuple #[.agg #[.nilFunc, .slice none 0 0], .bool false])) ∨
    ∃ ps g c, sumOf xs = some ps ∧ e = .returned (.tuple #[.agg #[.func (.func 27) #[] #[], .slice (some ⟨g, 0, none⟩) ps.length c], .bool true]) ∧ Rd tmI w' (fun b => w.heap.size ≤ b) (some ⟨g, 0, none⟩) ps)

set_option maxRecDepth 100000 in
set_option maxHeartbeats 4000000 in
theorem readSumN_any (xs : List (Int × ByteArray)) (n : Nat) (hnx : n = xs.length) (g cap : Nat) (w : World) (hn : n ≤ 1048576) (hz : ∀ j (h : j < xs.length), (xs[j]).2.size ≤ 1048576) (hl : TermL w g xs) :
    Calls Tryz.prog 17 #[.slice (some ⟨g, 0, none⟩) n cap] w (RSumN xs w) := by
  have HRT := Lib.hid (fun (W : World) (hb : Below w.heap.size w W) => readTerms_any 1 100 xs n hnx g cap W hn hz (hl.below hb))
  clear hz hl hnx
  go_enter Tryz.func17, Tryz.ntmps17
  go_wp2_with fail
  refine (HRT.out _ ((Below.refl _ _).alloc (Nat.le_refl _) _)).mono ?_
  rintro e w1 ⟨hB, hres⟩
  have hB1 : Below w.heap.size w w1 := ((Below.refl _ _).alloc (Nat.le_refl _) _).trans (hB.mono (by simp))
  have HBX := Lib.hid ((hB.block w.heap.size (by simp)).trans (heap_alloc_new w (.cells #[.nilFunc, .slice none 0 0] 57 (0, 0))))
  have HB1 := Lib.hid hB1
  have hsz : w.heap.size < w1.heap.size := by have := hB.size; simp at this; omega
  clear hB hB1
  rcases hres with ⟨hno, rfl⟩ | ⟨ps, gq, c, hyes, rfl, hrd⟩
  · have HN := Lib.hid (sum_not_terms hno)
    obtain ⟨r0, r1, f0, f1⟩ := two_cells HBX.out
    clear hno
    go_wp2_with fail
    refine bodyPost_ret (v := .tuple #[.agg #[.nilFunc, .slice none 0 0], .bool false]) (by simp [results, Tryz.results17, go_sem, r0, r1]) rfl ?_
    exact ⟨(HB1.out.setCell (by simp) _).setCell (by simp) _, .inl ⟨HN.out, rfl⟩⟩
  · have HY := Lib.hid hyes
    have HRD := Lib.hid hrd
    have HOK := Lib.hid (termsOf_ok hyes)
    obtain ⟨N, hN⟩ : ∃ N, N = ps.length := ⟨_, rfl⟩
    have HNN := Lib.hid hN
    have hN60 : N ≤ 60 := by have := HOK.out; omega
    rw [← hN]
    clear hyes hrd hN
    go_wp2_with fail
    go_loopw [6] (fun iv wr => ∃ k : Nat, 1 ≤ k ∧ (k ≤ N ∨ k = 1) ∧ iv = .int .i64 k ∧ (∀ i (h : i + 1 < ps.length), i + 1 < k → 0 < ordT (ps[i]).2 (ps[i + 1]).2) ∧ Below w1.heap.size w1 wr) (fun iv _ => N - (intOf iv).toNat)
    case atStart => exact ⟨1, by omega, .inr rfl, rfl, fun i _ h => by omega, Below.refl _ _⟩
    case round =>
      obtain ⟨k, hk1, hkN, rfl, hadj, hB⟩ := hrel
      have HADJ := Lib.hid hadj
      have HBC := Lib.hid hB
      have HX := Lib.hid ((hB.block w.heap.size hsz).trans HBX.out)
      obtain ⟨r0, r1, f0, f1⟩ := two_cells HX.out
      have hszr : w.heap.size < wr.heap.size := by have := hB.size; omega
      clear hadj
      by_cases hlt : k < N
      · obtain ⟨j, hj⟩ : ∃ j : Nat, j = k - 1 := ⟨_, rfl⟩
        have HJ := Lib.hid hj
        have hkw : IntKind.i64.wrap ((k : Int) - 1) = (j : Int) := by rw [IntKind.wrap_i64]; omega
        have hkw2 : IntKind.i64.wrap (j : Int) = (j : Int) := by rw [IntKind.wrap_i64]; omega
        have hj0 : (0 : Int) ≤ (j : Int) := by omega
        have hk0 : (0 : Int) ≤ (k : Int) := by omega
        have hjN : (j : Int) < (N : Int) := by omega
        have hjN' : j < N := by omega
        have hjp : j < ps.length := by have := HNN.out; omega
        have hkp : k < ps.length := by have := HNN.out; omega
        have hrdr := (HRD.out.weak (P' := fun _ => True) (by decide) (fun _ _ _ => trivial)).below (by decide) hB
        obtain ⟨gv, x, y, z, e1, _, _, x1, x2, x3, hxw, hxr⟩ := tmI.get hrdr j hjp
        cases e1
        obtain ⟨gv', x', y', z', e2, _, _, y1, y2, y3, hyw, hyr⟩ := tmI.get hrdr k hkp
        cases e2
        have hd := fun (W : World) (hb : Below wr.heap.size wr W) => descending_grew (ps[j]).2 (ps[k]).2 (fun _ => True) x y z x' y' z' W (by have := (HOK.out.2.2.tree _ (List.getElem_mem hjp)).2.1; omega) (by have := (HOK.out.2.2.tree _ (List.getElem_mem hkp)).2.1; omega) (hxr.below hxw hb) (hyr.below hyw hb)
        obtain ⟨q, hq⟩ : ∃ q, q = ordT (ps[k]).2 (ps[j]).2 := ⟨_, rfl⟩
        rw [← hq] at hd
        have HD := Lib.hid hd
        have HQ := Lib.hid hq
        clear hd hq hxr hyr hrdr hj hB
        by_cases hq0 : 0 ≤ q
        all_goals
          first | (have hqt : decide (0 ≤ q) = true := decide_eq_true hq0) | (have hqt : decide (0 ≤ q) = false := decide_eq_false hq0)
          go_wp2_with fail
          go_region_held3 (fun w' => w'.cell? ⟨gq, j * 4 + 1, none⟩ = some x ∧ w'.cell? ⟨gq, j * 4 + 2, none⟩ = some y ∧ w'.cell? ⟨gq, j * 4 + 3, none⟩ = some z ∧ w'.cell? ⟨gq, k * 4 + 1, none⟩ = some x' ∧ w'.cell? ⟨gq, k * 4 + 2, none⟩ = some y' ∧ w'.cell? ⟨gq, k * 4 + 3, none⟩ = some z')
            (first | exact ⟨x1, x2, x3, y1, y2, y3⟩ | exact ⟨p1, p2, p3, p4, p5, p6⟩)
            (first
            | (go_at_call 27; refine (HD.out _ (Below.refl _ _).drew).mono ?_; rintro e w2 ⟨rfl, hG⟩; have hB2' : Below wr.heap.size wr w2 := (Below.refl _ _).drew.trans hG.below; have p1 := keep1 hB2' x1; have p2 := keep1 hB2' x2; have p3 := keep1 hB2' x3; have p4 := keep1 hB2' y1; have p5 := keep1 hB2' y2; have p6 := keep1 hB2' y3; have s0 := keep1 hB2' r0; have s1 := keep1 hB2' r1; have g0 := keepf hB2' r0 f0; have g1 := keepf hB2' r1 f1; have HC1 := Lib.hid (below_step HBC.out hB2'); clear hG hB2'))
          all_goals
            first
            | (have HN : Hid (sumOf xs = none) := Lib.hid (sum_not_desc HY.out (fun hd => by
                 have h2 := adj_of_desc hd j (by have := HNN.out; have := HJ.out; omega)
                 have h3 := HQ.out
                 have h4 : j + 1 = k := by have := HJ.out; omega
                 subst h4
                 rw [isCmp_ordT.anti (ps[j]).2 (ps[j + 1]).2] at h3
                 omega))
               go_wp2_with fail
               refine bodyPost_ret (v := .tuple #[.agg #[.nilFunc, .slice none 0 0], .bool false]) (by simp [results, Tryz.results17, go_sem, s0, s1]) rfl ?_
               exact ⟨((below_step HB1.out HC1.out).setCell (by simp) _).setCell (by simp) _, .inl ⟨HN.out, rfl⟩⟩)
            | (go_wp2_with fail
               go_roundw
               case rel => exact ⟨k + 1, by omega, .inl (by omega), by go_num, fun i h hi => by
                   by_cases e : i + 1 = k
                   · have h4 : i = j := by have := HJ.out; omega
                     subst h4
                     have h3 := HQ.out
                     have h5 : ps[k] = ps[i + 1] := by congr 1; exact e.symm
                     rw [h5, isCmp_ordT.anti (ps[i]).2 (ps[i + 1]).2] at h3
                     omega
                   · exact HADJ.out i h (by omega), HC1.out⟩
               case measure => simp [intOf]; omega)
      · have HS : Hid (sumOf xs = some ps) := Lib.hid (sum_of_terms HY.out (desc_of_adj ps (fun i hi => HADJ.out i hi (by have := HNN.out; omega))))
        go_wp2_with fail
        refine bodyPost_ret (v := .tuple #[.agg #[.func (.func 27) #[] #[], (.slice (some ⟨gq, 0, none⟩) N c)], .bool true]) (by simp [results, Tryz.results17, go_sem, r0, r1]) rfl ?_
        have hBf := ((below_step HB1.out HBC.out).setCell (p := ⟨w.heap.size, 0, none⟩) (by simp) (.func (.func 27) #[] #[])).setCell (p := ⟨w.heap.size, 1, none⟩) (by simp) (.slice (some ⟨gq, 0, none⟩) N c)
        refine ⟨hBf, .inr ⟨ps, gq, c, HS.out, by rw [HNN.out], ?_⟩⟩
        refine (HRD.out.below (by decide) HBC.out).keep (by decide) (fun q u hq hu => ?_) (fun b h _ => by simp at h; omega)
        have hne : q.block ≠ w.heap.size := by
          intro e
          have h2 : (w.alloc (.cells #[.nilFunc, .slice none 0 0] 57 (0, 0))).heap.size ≤ q.block := hq
          rw [e, World.size_alloc'] at h2
          omega
        rw [World.cell?_of_block (w := wr)]
        · exact hu
        · rw [Below.heap_setCell _ _ _ _ hne, Below.heap_setCell _ _ _ _ hne]

/-- What 'readSums' answers. -/
def RSums (xs ys : List (Int × ByteArray)) (w : World) (e : Ending) (w' : World) : Prop :=
  Below w.heap.size w w' ∧ (((sumOf xs = none ∨ sumOf ys = none) ∧ e = .returned (.tuple #[.agg #[.nilFunc, .slice none 0 0], .agg #[.nilFunc, .slice none 0 0], .bool false])) ∨
    ∃ ps qs g c g' c', sumOf xs = some ps ∧ sumOf ys = some qs ∧ e = .returned (.tuple #[.agg #[.func (.func 27) #[] #[], .slice (some ⟨g, 0, none⟩) ps.length c], .agg #[.func (.func 27) #[] #[], .slice (some ⟨g', 0, none⟩) qs.length c'], .bool true]) ∧ Rd tmI w' (fun _ => True) (some ⟨g, 0, none⟩) ps ∧ Rd tmI w' (fun _ => True) (some ⟨g', 0, none⟩) qs)

theorem keeps_two {w : World} {q : Nat} {P : Nat → Prop} (hP : ∀ b, P b → b ≠ q ∧ b ≠ q + 1) (x y z u : Value) (o : Obj) : Keeps P w (((((w.setCell ⟨q, 0, none⟩ x).setCell ⟨q, 1, none⟩ y).setCell ⟨q + 1, 0, none⟩ z).setCell ⟨q + 1, 1, none⟩ u).alloc o).drew := fun p v hp hv => by
  have hb := World.block_lt_of_cell? w p hv
  have h := hP _ hp
  show (((((w.setCell ⟨q, 0, none⟩ x).setCell ⟨q, 1, none⟩ y).setCell ⟨q + 1, 0, none⟩ z).setCell ⟨q + 1, 1, none⟩ u).alloc o).cell? p = some v
  rw [World.cell?_of_block (w := w)]
  · exact hv
  · rw [Below.heap_alloc _ _ _ (by simp; exact hb), Below.heap_setCell _ _ _ _ h.2, Below.heap_setCell _ _ _ _ h.2, Below.heap_setCell _ _ _ _ h.1, Below.heap_setCell _ _ _ _ h.1]

/-- Terms are handed back, or none, or a sum that is 0, at any address. -/
def TermsAny (o : Option (List Tm)) (w : World) (e : Ending) (w' : World) : Prop :=
  Below w.heap.size w w' ∧ ((∃ b a c, e = .returned (.tuple #[.slice a 0 c, .bool b]) ∧ ((o = none ∧ b = false) ∨ (o = some [] ∧ b = true))) ∨
    ∃ qs g c cur, qs ≠ [] ∧ o = some qs ∧ e = .returned (.tuple #[.slice (some ⟨g, 0, none⟩) qs.length c, .bool true]) ∧ w.heap.size ≤ g ∧ w'.heap[g]? = some (.cells cur 74 (0, 0)) ∧ qs.length * 2 ≤ cur.size ∧ TermL w' g (txtTm qs))

theorem TermsPost.any {o : Option (List Tm)} {w w' : World} {e : Ending} (h : TermsPost o w e w') : TermsAny o w e w' := by
  obtain ⟨hB, ⟨h1, a, c, h2⟩ | ⟨qs, g, c, cur, h1, h2, h3, h4, h5, h6⟩⟩ := h
  · exact ⟨hB, .inl ⟨false, a, c, h2, .inl ⟨h1, rfl⟩⟩⟩
  · cases qs with
    | nil => exact ⟨hB, .inl ⟨true, _, _, h2, .inr ⟨h1, rfl⟩⟩⟩
    | cons q qs => exact ⟨hB, .inr ⟨q :: qs, g, c, cur, by simp, h1, h2, h3, h4, h5, h6⟩⟩

theorem TermsAny.empty {o : Option (List Tm)} {w w' : World} {e : Ending} (h : TermsAny o w e w') (he : o = none ∨ o = some []) : Below w.heap.size w w' ∧ ∃ a c, e = .returned (.tuple #[.slice a 0 c, .bool o.isSome]) := by
  obtain ⟨hB, ⟨b, a, c, h2, ⟨rfl, rfl⟩ | ⟨rfl, rfl⟩⟩ | ⟨qs, g, c, cur, hne, rfl, _⟩⟩ := h
  · exact ⟨hB, a, c, h2⟩
  · exact ⟨hB, a, c, h2⟩
  · rcases he with he | he
    · cases he
    · cases he; exact absurd rfl hne
theorem TermsAny.full {qs : List Tm} {N : Nat} {w w' : World} {e : Ending} (h : TermsAny (some qs) w e w') (hne : qs ≠ []) (hN : N = qs.length) : Below w.heap.size w w' ∧ ∃ g c cur, e = .returned (.tuple #[.slice (some ⟨g, 0, none⟩) N c, .bool true]) ∧ w.heap.size ≤ g ∧ w'.heap[g]? = some (.cells cur 74 (0, 0)) ∧ N * 2 ≤ cur.size ∧ TermL w' g (txtTm qs) := by
  obtain ⟨hB, ⟨b, a, c, h2, ⟨h3, _⟩ | ⟨h3, _⟩⟩ | ⟨qs', g, c, cur, _, h1, h2, h3, h4, h5, h6⟩⟩ := h
  · cases h3
  · cases h3; exact absurd rfl hne
  · cases h1
    rw [hN]
    exact ⟨hB, g, c, cur, h2, h3, h4, h5, h6⟩
end Go.Proofs.YtapobhnhnldlkaaGreat
