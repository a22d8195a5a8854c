/- Merged out of: XConcI, XPlusI, XAddI, XAddJ. -/
import Derived.Test.YtipodlckehodnaaComb
import Derived.Lib.AppendZerosOnto
import Derived.Lib.Walk
import Derived.Test.YtipodlckehodnaaTwoSums
import Derived.Test.YtipodlckehodnaaBndI
import Derived.Deep.RegionHeld3
import Derived.Test.YtipodlckehodnaaAddS
section
/- The program lays two rows of parts behind each other: slices.Grow at nil, slices.Concat of two. -/
namespace Go.Proofs.Ytipodlckehodnaa
open Go.RowKit

/-- A new row of no elements, with room. -/
def GrowPost (n : Nat) (w : World) (e : Ending) (w' : World) : Prop :=
  Below w.heap.size w w' ∧ ∃ va c, e = .returned (.slice va 0 c) ∧ w'.ownsRow w.heap.size 130 4 (.slice va 0 c) 0 [] ∧ (n = 0 → va = none ∧ c = 0) ∧ (0 < n → va ≠ none)

set_option maxRecDepth 100000 in
set_option maxHeartbeats 2000000 in
theorem growPt_any (n : Nat) (w : World) (hn2 : n ≤ 1000000) :
    Calls Try.prog 142 #[.slice none 0 0, .int .i64 n] w (GrowPost n w) := by
  obtain ⟨i0, hi0, hzz, hzs, hzb⟩ := info_parts infoPt
  have h1 : decide ((n : Int) < 0) = false := decide_eq_false (by omega)
  have h2 : ¬ ((n : Int) < 0) := by omega
  have h3 : IntKind.i64.wrap (n : Int) = (n : Int) := by rw [IntKind.wrap_i64]; omega
  have h4 : wrap64 (n : Int) = (n : Int) := by unfold wrap64; omega
  rcases Nat.eq_zero_or_pos n with h0 | h0
  · subst h0
    clear h1 h2 h3 h4
    go_enter Try.func142, Try.ntmps142
    go_wp2_with fail
    go_ret
    exact ⟨Below.refl _ _, none, 0, rfl, World.ownsRow_nil _ _ _ _, fun _ => ⟨rfl, rfl⟩, fun h => by omega⟩
  · have h5 : (0 : Int) < (n : Int) := by omega
    have hold : (Builtin.firstCells i0.size 0 (.slice none 0 0)).run Try.prog w.drew = .ok ([] : List Value).toArray w.drew := run_firstCells_none w.drew i0.size 0 0 0
    obtain ⟨G, hG⟩ : ∃ G, G = grownCap w (0 + n) 0 130 := ⟨_, rfl⟩
    have hrz : ∀ ty, (Builtin.append_ #[63, 3] ty #[.slice none 0 0, .int .i64 (n : Int)]).run Try.prog w = .ok (.slice (some ⟨w.heap.size, 0, none⟩) n G) (w.drew.alloc (.cells (([] : List Value).toArray ++ Builtin.zeroCells (Value.agg #[.int .i64 0, .nilIface, .slice none 0 0, .string ⟨#[]⟩]).cells n ++ Builtin.zeroCells (Value.agg #[.int .i64 0, .nilIface, .slice none 0 0, .string ⟨#[]⟩]).cells (G - n)) 130)) := fun ty => by
      have h := Lib.run_append_grow_zeros w 63 3 ty 130 i0 _ .i64 .i64 Try.underlying63 Try.underlying3 hi0 hzz none 0 0 [] hold n h0 (by omega) (by omega) (by omega) (by rw [hzb]; omega) (growslice_fits (by omega) (by rw [hzb]; omega))
      rw [← hG, Nat.zero_add] at h
      exact h
    have hGn : n ≤ G := by have := grownCap_ge w (0 + n) 0 130; omega
    have hGm : G ≤ maxLen := by rw [hG]; exact grownCap_le_maxLen w _ _ _ (by unfold maxLen; omega)
    have hG63 : G ≤ 9223372036854775807 := by unfold maxLen at hGm; omega
    have HOWN := Lib.hid (World.ownsRow_made (base := w.heap.size) (size := 4) (e := 130) w (Builtin.zeroCells #[.int .i64 0, .nilIface, .slice none 0 0, .string ⟨#[]⟩] n ++ Builtin.zeroCells #[.int .i64 0, .nilIface, .slice none 0 0, .string ⟨#[]⟩] (G - n)) G (Nat.le_refl _) hGm (by
      simp only [Array.size_append, size_zeroCells]
      simp; omega))
    clear hold hG hGm
    go_enter Try.func142, Try.ntmps142
    go_wp2_with (at_builtin; refine Lib.wpList_append_run _ rfl _ _ _ _ rfl _ _ rfl rfl _ _ (hrz _) ?_)
    all_goals
      go_ret
      exact ⟨((Below.refl _ _).alloc (Nat.le_refl _) _).drew, _, _, rfl, HOWN.out, fun h => by omega, fun _ => by simp⟩

/-- What stands in the cells of a row that is read. -/
structure NewsOf (P : Nat → Prop) (ps : List Tm) (n g : Nat) (w : World) (news : List Value) : Prop where
  len : news.length = n * 4
  cell : ∀ W, Below w.heap.size w W → ∀ j u, news[j]? = some u → W.cell? ((⟨g, 0, none⟩ : Addr).add j) = some u
  one : ∀ u ∈ news, u.oneCell' = true
  reps : ∀ q (hq : q < ps.length), ∃ cs, (∀ j, j < 4 → news[q * 4 + j]? = cs[j]?) ∧ tmI.R w (fun b => b < w.heap.size ∧ P b) ps[q] cs

theorem newsOf (P : Nat → Prop) (ps : List Tm) (n g : Nat) (hn : n = ps.length) (w : World) (hr : Rd tmI w P (some ⟨g, 0, none⟩) ps) : NewsOf P ps n g w (rowCells w g 0 (n * 4)) := by
  have hrW := hr.weak (P' := fun b => b < w.heap.size ∧ P b) (by decide) (fun _ h hlt => ⟨hlt, h⟩)
  obtain ⟨c1, c2, c3⟩ := hrW.cells (by decide) 0 n (by omega)
  rw [Nat.zero_mul] at c1 c2 c3
  refine ⟨rowCells_length .., fun W hb j u hu => ?_, c2, fun q hq => ?_⟩
  · have e : (⟨g, 0, none⟩ : Addr).add j = ⟨g, j, none⟩ := by unfold Addr.add; split <;> simp_all
    have := c1 j u hu
    rw [Nat.zero_add] at this
    rw [e]; exact keep1 hb this
  · obtain ⟨cs, e1, e2⟩ := c3 q (by omega)
    refine ⟨cs, e1, ?_⟩
    simp only [Nat.zero_add] at e2
    exact e2

theorem NewsOf.both {P : Nat → Prop} {ps qs : List Tm} {n n' g g' : Nat} {w : World} {xs ys : List Value} (h : NewsOf P ps n g w xs) (h' : NewsOf P qs n' g' w ys) (hn : n = ps.length) :
    ∀ q (hq : q < (ps ++ qs).length), ∃ cs, (∀ j, j < 4 → (xs ++ ys)[q * 4 + j]? = cs[j]?) ∧ tmI.R w (fun b => b < w.heap.size ∧ P b) (ps ++ qs)[q] cs := fun q hq => by
  by_cases hlt : q < ps.length
  · obtain ⟨cs, e1, e2⟩ := h.reps q hlt
    refine ⟨cs, fun j hj => ?_, by rw [List.getElem_append_left hlt]; exact e2⟩
    rw [List.getElem?_append_left (by rw [h.len]; omega)]
    exact e1 j hj
  · have hq2 : q - ps.length < qs.length := by rw [List.length_append] at hq; omega
    obtain ⟨cs, e1, e2⟩ := h'.reps (q - ps.length) hq2
    refine ⟨cs, fun j hj => ?_, by rw [List.getElem_append_right (by omega)]; exact e2⟩
    rw [List.getElem?_append_right (by rw [h.len]; omega), ← e1 j hj, h.len]
    congr 1
    omega

theorem own_shape {w : World} {base : Nat} {e : TypeId} {size : Nat} {v : Value} {n : Nat} {xs : List Value} (hs : 0 < size) (h : w.ownsRow base e size v n xs) : ∃ a c, v = .slice a n c ∧ (a = none → v = .slice none 0 0) := by
  rcases h.2 with ⟨rfl, hx⟩ | ⟨g, cap, cur, rfl, _⟩
  · have h1 := h.1
    rw [hx] at h1
    have h2 : n = 0 := by
      rcases Nat.eq_zero_or_pos n with h | h
      · exact h
      · have := Nat.mul_pos h hs
        simp at h1; omega
    subst h2
    exact ⟨none, 0, rfl, fun _ => rfl⟩
  · exact ⟨some ⟨g, 0, none⟩, cap, rfl, fun e => by simp at e⟩

/-- What 'Concat' of two rows answers. -/
def ConcPost (P : Nat → Prop) (ps qs : List Tm) (n : Nat) (w : World) (e : Ending) (w' : World) : Prop :=
  Below w.heap.size w w' ∧ ∃ va c, e = .returned (.slice va n c) ∧ ((n = 0 ∧ va = none ∧ c = 0) ∨ ∃ g2, va = some ⟨g2, 0, none⟩ ∧ Rd tmI w' (fun b => P b ∨ w.heap.size ≤ b) va (ps ++ qs))

set_option maxRecDepth 100000 in
set_option maxHeartbeats 2000000 in
theorem concat_any (P : Nat → Prop) (ps qs : List Tm) (n n' : Nat) (hn : n = ps.length) (hn' : n' = qs.length) (a g c g' c' : Nat) (w : World) (hn2 : n ≤ 100000) (hn2' : n' ≤ 100000) (h0 : w.cell? ⟨a, 0, none⟩ = some (.slice (some ⟨g, 0, none⟩) n c)) (h1 : w.cell? ⟨a, 1, none⟩ = some (.slice (some ⟨g', 0, none⟩) n' c')) (hr : Rd tmI w P (some ⟨g, 0, none⟩) ps) (hr' : Rd tmI w P (some ⟨g', 0, none⟩) qs) :
    Calls Try.prog 123 #[.slice (some ⟨a, 0, none⟩) 2 2] w (ConcPost P ps qs (n + n') w) := by
  obtain ⟨i0, hi0, hzz, hzs, hzb⟩ := info_parts infoPt
  have HX := Lib.hid (newsOf P ps n g hn w hr)
  have HY := Lib.hid (newsOf P qs n' g' hn' w hr')
  obtain ⟨xs, hxs⟩ : ∃ xs, xs = rowCells w g 0 (n * 4) := ⟨_, rfl⟩
  obtain ⟨ys, hys⟩ : ∃ ys, ys = rowCells w g' 0 (n' * 4) := ⟨_, rfl⟩
  rw [← hxs] at HX
  rw [← hys] at HY
  have HNN := Lib.hid hn
  have HNN' := Lib.hid hn'
  obtain ⟨N, hN⟩ : ∃ N, N = n + n' := ⟨_, rfl⟩
  have HN := Lib.hid hN
  have hw1 : IntKind.i64.wrap (n : Int) = (n : Int) := by rw [IntKind.wrap_i64]; omega
  have hw2 : IntKind.i64.wrap ((n : Int) + (n' : Int)) = (N : Int) := by rw [IntKind.wrap_i64]; omega
  have hd1 : ¬ ((n : Int) < 0) := by omega
  have hd2 : ¬ ((N : Int) < 0) := by omega
  have hNl : N ≤ 200000 := by omega
  have HG := Lib.hid (fun W => growPt_any N W (by omega))
  rw [← hN]
  clear hr hr' hxs hys hn hn' hN
  go_enter Try.func123, Try.ntmps123
  go_wp2_with fail
  go_loopw [3, 11] (fun sv iv wr => w = wr ∧ ((iv = .int .i64 0 ∧ sv = .int .i64 0) ∨ (iv = .int .i64 1 ∧ sv = .int .i64 n) ∨ (iv = .int .i64 2 ∧ sv = .int .i64 N))) (fun _ iv _ => 2 - (intOf iv).toNat)
  case atStart => exact ⟨rfl, .inl ⟨rfl, rfl⟩⟩
  case round =>
    obtain ⟨rfl, ⟨rfl, rfl⟩ | ⟨rfl, rfl⟩ | ⟨rfl, rfl⟩⟩ := hrel
    · go_wp2_with fail
      go_roundw
      case rel => exact ⟨by first | rfl | trivial, .inr (.inl ⟨by rfl, by first | rfl | simp [hw1]⟩)⟩
      case measure => simp [intOf]
    · go_wp2_with fail
      go_roundw
      case rel => exact ⟨by first | rfl | trivial, .inr (.inr ⟨by rfl, by first | rfl | simp [hw2]⟩)⟩
      case measure => simp [intOf]
    · go_wp2_with fail
      refine (HG.out _).mono ?_
      rintro e w1 ⟨hB1, va, vc, rfl, hown, hz1, hz2⟩
      have HB1 := Lib.hid hB1
      have HOWN := Lib.hid hown
      have HZ1 := Lib.hid hz1
      have HZ2 := Lib.hid hz2
      have hsz1 := hB1.size
      clear hB1 hown hz1 hz2
      go_wp2_with fail
      go_loopw [6, 27] (fun ov iv wr => ∃ (va : Option Addr) (k vc : Nat) (vs : List Value), ov = .slice va k vc ∧ wr.ownsRow w.heap.size 130 4 (.slice va k vc) k vs ∧ Below w.heap.size w wr ∧ (N = 0 → va = none ∧ vc = 0) ∧ (0 < N → va ≠ none) ∧ ((iv = .int .i64 0 ∧ k = 0 ∧ vs = []) ∨ (iv = .int .i64 1 ∧ k = n ∧ vs = xs) ∨ (iv = .int .i64 2 ∧ k = N ∧ vs = xs ++ ys))) (fun _ iv _ => 2 - (intOf iv).toNat)
      case atStart => exact ⟨va, 0, vc, [], rfl, HOWN.out, HB1.out, HZ1.out, HZ2.out, .inl ⟨rfl, rfl, rfl⟩⟩
      case round =>
        obtain ⟨va, k, vc, vs, rfl, hown, hB, hz1, hz2, hst⟩ := hrel
        have h0' := keep1 hB h0
        have h1' := keep1 hB h1
        have HBr := Lib.hid hB
        have hszr := hB.size
        have HOWN := Lib.hid hown
        have HZ1 := Lib.hid hz1
        have HZ2 := Lib.hid hz2
        clear hown hB hz1 hz2
        rcases hst with ⟨rfl, rfl, rfl⟩ | ⟨rfl, hk, hv⟩ | ⟨rfl, hk, hv⟩
        · go_wp2_with (at_builtin; refine wpList_append_own_at _ rfl _ _ 63 rfl w.heap.size 130 i0 (.agg #[.int .i64 0, .nilIface, .slice none 0 0, .string ⟨#[]⟩]) 4 64 Try.underlying63 hi0 hzz hzs hzb rfl (by decide) (.slice va 0 vc) 0 [] rfl HOWN.out ⟨g, 0, none⟩ n c xs rfl HX.out.len (HX.out.cell _ HBr.out) HX.out.one (by unfold maxLen; omega) (by omega) (by omega) ?_; intro v1 w2 hown2 hg2 hnil2 hat2)
          rw [Nat.zero_add, List.nil_append] at hown2
          obtain ⟨va', vc', rfl, hsh⟩ := own_shape (by decide) hown2
          have HO2 := Lib.hid hown2
          have HB2 := Lib.hid (HBr.out.grown hg2 (by omega) (fun q e => (HOWN.out.lt q e).1))
          have HZ1' : Hid (N = 0 → va' = none ∧ vc' = 0) := Lib.hid (fun h => by
            obtain ⟨e1, e2⟩ := HZ1.out h
            have hnn := HN.out
            have h3 := hnil2.2 ⟨by rw [e1, e2], by omega⟩
            simp only [Value.slice.injEq] at h3
            exact ⟨h3.1, h3.2.2⟩)
          have HZ2' : Hid (0 < N → va' ≠ none) := Lib.hid (fun h e => by
            have h3 := (hnil2.1 (hsh e)).1
            simp only [Value.slice.injEq] at h3
            exact HZ2.out h h3.1)
          clear hown2 hg2 hnil2 hat2 hsh
          go_wp2_with fail
          go_roundw
          case rel => exact ⟨va', n, vc', xs, rfl, HO2.out, HB2.out, HZ1'.out, HZ2'.out, .inr (.inl ⟨by rfl, rfl, rfl⟩)⟩
          case measure => simp [intOf]
        · replace hk := hk.symm
          replace hv := hv.symm
          subst hk
          subst hv
          go_wp2_with (at_builtin; refine wpList_append_own_at _ rfl _ _ 63 rfl w.heap.size 130 i0 (.agg #[.int .i64 0, .nilIface, .slice none 0 0, .string ⟨#[]⟩]) 4 64 Try.underlying63 hi0 hzz hzs hzb rfl (by decide) (.slice va n vc) n xs rfl HOWN.out ⟨g', 0, none⟩ n' c' ys rfl HY.out.len (HY.out.cell _ HBr.out) HY.out.one (by unfold maxLen; omega) (by omega) (by omega) ?_; intro v1 w2 hown2 hg2 hnil2 hat2)
          rw [← HN.out] at hown2
          obtain ⟨va', vc', rfl, hsh⟩ := own_shape (by decide) hown2
          have HO2 := Lib.hid hown2
          have HB2 := Lib.hid (HBr.out.grown hg2 (by omega) (fun q e => (HOWN.out.lt q e).1))
          have HZ1' : Hid (N = 0 → va' = none ∧ vc' = 0) := Lib.hid (fun h => by
            obtain ⟨e1, e2⟩ := HZ1.out h
            have hnn := HN.out
            have h3 := hnil2.2 ⟨by rw [e1, e2, show n = 0 by omega], by omega⟩
            simp only [Value.slice.injEq] at h3
            exact ⟨h3.1, h3.2.2⟩)
          have HZ2' : Hid (0 < N → va' ≠ none) := Lib.hid (fun h e => by
            have h3 := (hnil2.1 (hsh e)).1
            simp only [Value.slice.injEq] at h3
            exact HZ2.out h h3.1)
          clear hown2 hg2 hnil2 hat2 hsh
          go_wp2_with fail
          go_roundw
          case rel => exact ⟨va', N, vc', xs ++ ys, rfl, HO2.out, HB2.out, HZ1'.out, HZ2'.out, .inr (.inr ⟨by rfl, rfl, rfl⟩)⟩
          case measure => simp [intOf]
        · replace hk := hk.symm
          replace hv := hv.symm
          subst hk
          subst hv
          have HB2 := HBr
          go_wp2_with fail
          go_ret
          refine ⟨HB2.out, va, vc, rfl, ?_⟩
          rcases Nat.eq_zero_or_pos N with hz | hz
          · obtain ⟨e1, e2⟩ := HZ1.out hz
            exact .inl ⟨hz, e1, e2⟩
          · obtain ⟨g2, rfl, _⟩ := owns_addr HOWN.out (HZ2.out hz)
            refine .inr ⟨g2, rfl, ?_⟩
            have hrow : Row (tmI.inn (fun b => P b ∨ w.heap.size ≤ b)) 130 w.heap.size (ps ++ qs) (.slice (some ⟨g2, 0, none⟩) N vc) (xs ++ ys) wr := Row.of_old HB2.out (by
              have h := HOWN.out
              rw [List.length_append, ← HNN.out, ← HNN'.out, ← HN.out]
              exact h) (Nat.le_refl _) (fun q hq => by
              obtain ⟨cs, e1, e2⟩ := HX.out.both HY.out HNN.out q hq
              exact ⟨cs, e1, tmI.keep (fun _ _ _ h => h) (fun b h _ => ⟨h.1, .inl h.2⟩) e2⟩)
            exact hrow.rd.inn (fun g e h => .inr (hrow.rd_from g e h))
end Go.Proofs.Ytipodlckehodnaa
end
section
/- The program adds two sums: combine at nil, plus, addSums, SumAdd. -/
namespace Go.Proofs.Ytipodlckehodnaa
open Go.RowKit

theorem cloneNil_any (w : World) :
    Calls Try.prog 91 #[.slice none 0 0] w fun e w' => e = .returned (.slice none 0 0) ∧ w = w' := by
  have hnil : (binOp .eql 63 (.slice none 0 0) (.slice none 0 0)).run Try.prog w = .ok (.bool true) w := by
    simp only [binOp]
    simp [Op.equal, Op.maxDepth, Lib.run_equalIn_slice_nil w 9999 63 130 none 0 0 0 0 Try.underlying63]
  go_enter Try.func91, Try.ntmps91
  go_wp2_with fail
  go_ret
  exact ⟨rfl, rfl⟩

set_option maxRecDepth 100000 in
set_option maxHeartbeats 2000000 in
theorem combineNil_any (P : Nat → Prop) (w : World) :
    Calls Try.prog 56 #[(.func (.func 57) #[] #[]), .slice none 0 0] w (CombPost P [] w) := by
  obtain ⟨w0, hw0⟩ : ∃ w0, w0 = (w.alloc (.cells #[(.func (.func 57) #[] #[])] 62 (0, 0))).alloc (.cells #[.nilFunc, .slice none 0 0] 65 (0, 0)) := ⟨_, rfl⟩
  have HB0 : Hid (Below w.heap.size w w0) := Lib.hid (by rw [hw0]; exact ((Below.refl _ _).alloc (Nat.le_refl _) _).alloc (by simp) _)
  have hX : w0.heap[w.heap.size]? = some (.cells #[(.func (.func 57) #[] #[])] 62 (0, 0)) := by
    rw [hw0, Below.heap_alloc _ _ _ (by simp)]; exact heap_alloc_new w _
  have hR : w0.heap[w.heap.size + 1]? = some (.cells #[.nilFunc, .slice none 0 0] 65 (0, 0)) := by
    rw [hw0]
    have := heap_alloc_new (w.alloc (.cells #[(.func (.func 57) #[] #[])] 62 (0, 0))) (.cells #[.nilFunc, .slice none 0 0] 65 (0, 0))
    simpa using this
  have hsz : w0.heap.size = w.heap.size + 1 + 1 := by rw [hw0]; simp
  have x0 : w0.cell? ⟨w.heap.size, 0, none⟩ = some (.func (.func 57) #[] #[]) := by rw [Lib.cell_of_heap hX]; rfl
  obtain ⟨r0, r1, fr0, fr1⟩ := two_cells hR
  have hcon := AnyF.slices_SortFunc_none Try.sortPt none 0 (.func (.func 93) #[] #[.pointer (some ⟨w.heap.size, 0, none⟩)]) w0
  change Calls Try.prog 92 _ _ _ at hcon
  have HS := Lib.hid hcon
  have HW0 := Lib.hid hw0
  have hlt0 : w.heap.size < w0.heap.size := by omega
  have hlt1 : w.heap.size + 1 < w0.heap.size := by omega
  have HSZ := Lib.hid hsz
  have HR0 := Lib.hid hR
  have HX0 := Lib.hid hX
  clear hcon hw0 hsz hX hR
  go_enter Try.func56, Try.ntmps56
  go_wp2_with fail
  rw [← HW0.out]
  refine (cloneNil_any _).mono ?_
  rintro e w1 ⟨rfl, rfl⟩
  go_wp2_with fail
  refine HS.out.mono ?_
  rintro e w2 ⟨rfl, rfl⟩
  go_wp2_with fail
  go_loopw [6, 7] (fun ov iv wr => ov = .slice (some ⟨w2.heap.size, 0, none⟩) 0 0 ∧ iv = .int .i64 0 ∧ Below w2.heap.size w2 wr) (fun _ _ _ => 0)
  case atStart => exact ⟨rfl, rfl, (Below.refl _ _).alloc (Nat.le_refl _) _⟩
  case round =>
    obtain ⟨rfl, rfl, hB⟩ := hrel
    have HB := Lib.hid hB
    have x0' := keep1 hB x0
    obtain ⟨q0, q1, f0, f1⟩ := two_cells ((hB.block _ hlt1).trans HR0.out)
    have hszr := hB.size
    clear hB
    go_wp2_with fail
    refine bodyPost_ret (v := .agg #[(.func (.func 57) #[] #[]), .slice (some ⟨w2.heap.size, 0, none⟩) 0 0]) (by simp [results, Try.results56, go_sem, q0, q1]) rfl ?_
    exact ⟨((below_step HB0.out HB.out).setCell (p := ⟨w.heap.size + 1, 0, none⟩) (by simp) _).setCell (p := ⟨w.heap.size + 1, 1, none⟩) (by simp) _, w2.heap.size, 0, rfl, Rd.nil⟩

/-- 'combine' of what 'Concat' answers. -/
theorem combineOf_any (P : Nat → Prop) (ps : List Tm) (n : Nat) (hn : n = ps.length) (va : Option Addr) (c : Nat) (w : World) (hn2 : n ≤ 100000) (hps : ∀ p ∈ ps, p.2.wf ∧ p.2.leaves ≤ 1000 ∧ p.2.nodes ≤ 1000 ∧ -1000000 ≤ p.1 ∧ p.1 ≤ 1000000)
    (h : (n = 0 ∧ va = none ∧ c = 0) ∨ ∃ g, va = some ⟨g, 0, none⟩ ∧ Rd tmI w P va ps) :
    Calls Try.prog 56 #[(.func (.func 57) #[] #[]), .slice va n c] w (CombPost P ps w) := by
  rcases h with ⟨h1, rfl, rfl⟩ | ⟨g, rfl, hr⟩
  · rw [h1] at hn
    rw [List.length_eq_zero_iff.1 hn.symm, h1]
    exact combineNil_any P w
  · exact combine_any P ps n hn g c w hn2 hps hr
theorem cell_put_two {w : World} {q : Nat} {p : Addr} {v : Value} (h : w.cell? p = some v) (hne : p.block ≠ q) (x y : Value) : ((w.setCell ⟨q, 0, none⟩ x).setCell ⟨q, 1, none⟩ y).cell? p = some v := by
  rw [World.cell?_of_block (w := w)]
  · exact h
  · rw [Below.heap_setCell _ _ _ _ hne, Below.heap_setCell _ _ _ _ hne]

set_option maxRecDepth 100000 in
set_option maxHeartbeats 2000000 in
/-- 'plus': the sum of two sums. -/
theorem plus_any (P : Nat → Prop) (ps qs : List Tm) (n n' : Nat) (hn : n = ps.length) (hn' : n' = qs.length) (g c g' c' : Nat) (w : World) (hn2 : n ≤ 10000) (hn2' : n' ≤ 10000) (hps : ∀ p ∈ ps ++ qs, p.2.wf ∧ p.2.leaves ≤ 1000 ∧ p.2.nodes ≤ 1000 ∧ -1000000 ≤ p.1 ∧ p.1 ≤ 1000000) (hr : Rd tmI w P (some ⟨g, 0, none⟩) ps) (hr' : Rd tmI w P (some ⟨g', 0, none⟩) qs) :
    Calls Try.prog 97 #[.agg #[(.func (.func 57) #[] #[]), .slice (some ⟨g, 0, none⟩) n c], .agg #[(.func (.func 57) #[] #[]), .slice (some ⟨g', 0, none⟩) n' c']] w (CombPost P (ps ++ qs) w) := by
  obtain ⟨w0, hw0⟩ : ∃ w0, w0 = ((w.alloc (.cells #[(.func (.func 57) #[] #[]), .slice (some ⟨g, 0, none⟩) n c] 65 (0, 0))).alloc (.cells #[(.func (.func 57) #[] #[]), .slice (some ⟨g', 0, none⟩) n' c'] 65 (0, 0))).alloc (.cells #[.nilFunc, .slice none 0 0] 65 (0, 0)) := ⟨_, rfl⟩
  have hB0 : Below w.heap.size w w0 := by rw [hw0]; exact (((Below.refl _ _).alloc (Nat.le_refl _) _).alloc (by simp) _).alloc (by simp; omega) _
  have hA : w0.heap[w.heap.size]? = some (.cells #[(.func (.func 57) #[] #[]), .slice (some ⟨g, 0, none⟩) n c] 65 (0, 0)) := by
    rw [hw0, Below.heap_alloc _ _ _ (by simp; omega), Below.heap_alloc _ _ _ (by simp)]; exact heap_alloc_new w _
  have hBx : w0.heap[w.heap.size + 1]? = some (.cells #[(.func (.func 57) #[] #[]), .slice (some ⟨g', 0, none⟩) n' c'] 65 (0, 0)) := by
    rw [hw0, Below.heap_alloc _ _ _ (by simp)]
    have := heap_alloc_new (w.alloc (.cells #[(.func (.func 57) #[] #[]), .slice (some ⟨g, 0, none⟩) n c] 65 (0, 0))) (.cells #[(.func (.func 57) #[] #[]), .slice (some ⟨g', 0, none⟩) n' c'] 65 (0, 0))
    simpa using this
  have hR : w0.heap[w.heap.size + 1 + 1]? = some (.cells #[.nilFunc, .slice none 0 0] 65 (0, 0)) := by
    rw [hw0]
    have := heap_alloc_new ((w.alloc (.cells #[(.func (.func 57) #[] #[]), .slice (some ⟨g, 0, none⟩) n c] 65 (0, 0))).alloc (.cells #[(.func (.func 57) #[] #[]), .slice (some ⟨g', 0, none⟩) n' c'] 65 (0, 0))) (.cells #[.nilFunc, .slice none 0 0] 65 (0, 0))
    simpa using this
  have hsz : w0.heap.size = w.heap.size + 1 + 1 + 1 := by rw [hw0]; simp
  obtain ⟨a0, a1, _, _⟩ := two_cells hA
  obtain ⟨_, b1, _, _⟩ := two_cells hBx
  obtain ⟨N, hN⟩ : ∃ N, N = n + n' := ⟨_, rfl⟩
  have HNN : Hid (N = (ps ++ qs).length) := Lib.hid (by rw [List.length_append]; omega)
  have hN2 : N ≤ 20000 := by omega
  have HCC := Lib.hid (fun (W : World) (hb : Below w0.heap.size w0 W) (a : Nat) (h0 : W.cell? ⟨a, 0, none⟩ = some (.slice (some ⟨g, 0, none⟩) n c)) (h1 : W.cell? ⟨a, 1, none⟩ = some (.slice (some ⟨g', 0, none⟩) n' c')) => by
    have h := concat_any (fun b => P b ∧ b < w.heap.size) ps qs n n' hn hn' a g c g' c' W (by omega) (by omega) h0 h1 (((hr.weak (P' := fun b => P b ∧ b < w.heap.size) (by decide) (fun _ h h' => ⟨h, h'⟩)).below (by decide) hB0).below (by decide) hb) (((hr'.weak (P' := fun b => P b ∧ b < w.heap.size) (by decide) (fun _ h h' => ⟨h, h'⟩)).below (by decide) hB0).below (by decide) hb)
    rw [← hN] at h
    exact h)
  have HCB := Lib.hid (fun (Q : Nat → Prop) (va : Option Addr) (c : Nat) (W : World) h => combineOf_any Q (ps ++ qs) N HNN.out va c W (by omega) hps h)
  have hl0 : w.heap.size < w0.heap.size := by omega
  have hl1 : w.heap.size + 1 < w0.heap.size := by omega
  have hl2 : w.heap.size + 1 + 1 < w0.heap.size := by omega
  have HW0 := Lib.hid hw0
  have HB0 := Lib.hid hB0
  have HSZ := Lib.hid hsz
  have HR := Lib.hid hR
  have V0 := fun (o : Obj) => (⟨keep1 ((Below.refl w0.heap.size w0).alloc (Nat.le_refl _) o) a0, keep1 ((Below.refl w0.heap.size w0).alloc (Nat.le_refl _) o) a1, keep1 ((Below.refl w0.heap.size w0).alloc (Nat.le_refl _) o) b1⟩ : (w0.alloc o).cell? ⟨w.heap.size, 0, none⟩ = some (.func (.func 57) #[] #[]) ∧ (w0.alloc o).cell? ⟨w.heap.size, 1, none⟩ = some (.slice (some ⟨g, 0, none⟩) n c) ∧ (w0.alloc o).cell? ⟨w.heap.size + 1, 1, none⟩ = some (.slice (some ⟨g', 0, none⟩) n' c'))
  have HBX0 := Lib.hid (((Below.refl w0.heap.size w0).alloc (Nat.le_refl _) (.cells #[.slice (some ⟨g, 0, none⟩) n c, .slice (some ⟨g', 0, none⟩) n' c'] 63 (0, 0))).drew)
  clear hr hr' hps hn hn' hN hw0 hB0 hA hBx hR hsz
  go_enter Try.func97, Try.ntmps97
  go_wp2_with fail
  rw [← HW0.out]
  go_region_held3 (fun w' => w'.cell? ⟨w.heap.size, 0, none⟩ = some (.func (.func 57) #[] #[]) ∧ w'.cell? ⟨w.heap.size, 1, none⟩ = some (.slice (some ⟨g, 0, none⟩) n c) ∧ w'.cell? ⟨w.heap.size + 1, 1, none⟩ = some (.slice (some ⟨g', 0, none⟩) n' c'))
    (first | exact ⟨a0, a1, b1⟩ | exact V0 _ | exact ⟨p0, p1, p2⟩ | exact ⟨q0, q1, q2⟩ | exact ⟨cell_put_two q0 (show w.heap.size ≠ w.heap.size + 1 + 1 by omega) _ _, cell_put_two q1 (show w.heap.size ≠ w.heap.size + 1 + 1 by omega) _ _, cell_put_two q2 (show w.heap.size + 1 ≠ w.heap.size + 1 + 1 by omega) _ _⟩)
    (first
    | (go_at_call 123; refine (HCC.out _ HBX0.out _ (cells_two rfl _ _ 0 _ rfl) (cells_two rfl _ _ 1 _ rfl)).mono ?_; rintro e w5 ⟨hB5, va, vc, rfl, hres⟩; have hb5 := HBX0.out.trans (hB5.mono HBX0.out.size); have p0 := keep1 hb5 a0; have p1 := keep1 hb5 a1; have p2 := keep1 hb5 b1; have HB5 := Lib.hid hb5; have HCX := Lib.hid (HCB.out _ va vc w5 hres); clear hB5 hb5 hres)
    | (go_at_call 56; refine HCX.out.mono ?_; rintro e w6 ⟨hB6, g6, c6, rfl, hr6⟩; have hb6 := HB5.out.trans (hB6.mono HB5.out.size); obtain ⟨r0, r1, fr0, fr1⟩ := two_cells ((hb6.block _ hl2).trans HR.out); have q0 := keep1 hb6 a0; have q1 := keep1 hb6 a1; have q2 := keep1 hb6 b1; have HB6 := Lib.hid hb6; have HR6 := Lib.hid hr6; have hs6 := hb6.size; have hs5 := HB5.out.size; clear hB6 hb6 hr6))
  go_wp2_with fail
  refine bodyPost_ret (v := .agg #[(.func (.func 57) #[] #[]), .slice (some ⟨g6, 0, none⟩) (canon (ps ++ qs)).length c6]) (by simp [results, Try.results97, go_sem, r0, r1]) rfl ?_
  refine ⟨((below_step HB0.out HB6.out).setCell (p := ⟨w.heap.size + 1 + 1, 0, none⟩) (by simp; omega) _).setCell (p := ⟨w.heap.size + 1 + 1, 1, none⟩) (by simp; omega) _, g6, c6, rfl, ?_⟩
  have h2 := HSZ.out
  refine HR6.out.keep (by decide) (fun q u hq hu => ?_) (fun b h _ => by
    rcases h with (h | h) | h
    · exact .inl h.1
    · exact .inr (by simp at h; omega)
    · exact .inr (by omega))
  have hne : q.block ≠ w.heap.size + 1 + 1 := by
    rcases hq with (h | h) | h
    · omega
    · simp at h; omega
    · omega
  exact cell_put_two hu hne _ _
end Go.Proofs.Ytipodlckehodnaa
end
section
/- The program adds two sums: addSums, SumAdd. -/
namespace Go.Proofs.Ytipodlckehodnaa
open Go.RowKit

/-- What 'addSums' answers. -/
def AddPost (ps qs : List Tm) (w : World) (e : Ending) (w' : World) : Prop :=
  Below w.heap.size w w' ∧ ((alike ps qs = false ∧ e = .returned (.tuple #[.agg #[.nilFunc, .slice none 0 0], .bool false])) ∨
    (alike ps qs = true ∧ ∃ g6 c6, e = .returned (.tuple #[.agg #[(.func (.func 57) #[] #[]), .slice (some ⟨g6, 0, none⟩) (canon (ps ++ qs)).length c6], .bool true]) ∧ Rd tmI w' (fun _ => True) (some ⟨g6, 0, none⟩) (canon (ps ++ qs))))

set_option maxRecDepth 100000 in
set_option maxHeartbeats 2000000 in
theorem addSums_any (ps qs : List Tm) (n n' : Nat) (hn : n = ps.length) (hn' : n' = qs.length) (g c g' c' : Nat) (w : World) (hn2 : n ≤ 10000) (hn2' : n' ≤ 10000) (hps : ∀ p ∈ ps ++ qs, p.2.wf ∧ p.2.leaves ≤ 1000 ∧ p.2.nodes ≤ 1000 ∧ -1000000 ≤ p.1 ∧ p.1 ≤ 1000000) (hr : Rd tmI w (fun _ => True) (some ⟨g, 0, none⟩) ps) (hr' : Rd tmI w (fun _ => True) (some ⟨g', 0, none⟩) qs) :
    Calls Try.prog 59 #[.agg #[(.func (.func 57) #[] #[]), .slice (some ⟨g, 0, none⟩) n c], .agg #[(.func (.func 57) #[] #[]), .slice (some ⟨g', 0, none⟩) n' c']] w (AddPost ps qs w) := by
  obtain ⟨w0, hw0⟩ : ∃ w0, w0 = ((w.alloc (.cells #[(.func (.func 57) #[] #[]), .slice (some ⟨g, 0, none⟩) n c] 65 (0, 0))).alloc (.cells #[(.func (.func 57) #[] #[]), .slice (some ⟨g', 0, none⟩) n' c'] 65 (0, 0))).alloc (.cells #[.nilFunc, .slice none 0 0] 65 (0, 0)) := ⟨_, rfl⟩
  have hB0 : Below w.heap.size w w0 := by rw [hw0]; exact (((Below.refl _ _).alloc (Nat.le_refl _) _).alloc (by simp) _).alloc (by simp; omega) _
  have hA : w0.heap[w.heap.size]? = some (.cells #[(.func (.func 57) #[] #[]), .slice (some ⟨g, 0, none⟩) n c] 65 (0, 0)) := by
    rw [hw0, Below.heap_alloc _ _ _ (by simp; omega), Below.heap_alloc _ _ _ (by simp)]; exact heap_alloc_new w _
  have hBx : w0.heap[w.heap.size + 1]? = some (.cells #[(.func (.func 57) #[] #[]), .slice (some ⟨g', 0, none⟩) n' c'] 65 (0, 0)) := by
    rw [hw0, Below.heap_alloc _ _ _ (by simp)]
    have := heap_alloc_new (w.alloc (.cells #[(.func (.func 57) #[] #[]), .slice (some ⟨g, 0, none⟩) n c] 65 (0, 0))) (.cells #[(.func (.func 57) #[] #[]), .slice (some ⟨g', 0, none⟩) n' c'] 65 (0, 0))
    simpa using this
  have hR : w0.heap[w.heap.size + 1 + 1]? = some (.cells #[.nilFunc, .slice none 0 0] 65 (0, 0)) := by
    rw [hw0]
    have := heap_alloc_new ((w.alloc (.cells #[(.func (.func 57) #[] #[]), .slice (some ⟨g, 0, none⟩) n c] 65 (0, 0))).alloc (.cells #[(.func (.func 57) #[] #[]), .slice (some ⟨g', 0, none⟩) n' c'] 65 (0, 0))) (.cells #[.nilFunc, .slice none 0 0] 65 (0, 0))
    simpa using this
  have hsz : w0.heap.size = w.heap.size + 1 + 1 + 1 := by rw [hw0]; simp
  obtain ⟨a0, a1, _, _⟩ := two_cells hA
  obtain ⟨b0, b1, _, _⟩ := two_cells hBx
  have HP := Lib.hid (fun (W : World) (hb : Below w0.heap.size w0 W) => plus_any (fun b => b < w.heap.size) ps qs n n' hn hn' g c g' c' W hn2 hn2' hps (((hr.weak (P' := fun b => b < w.heap.size) (by decide) (fun _ _ h' => h')).below (by decide) hB0).below (by decide) hb) (((hr'.weak (P' := fun b => b < w.heap.size) (by decide) (fun _ _ h' => h')).below (by decide) hB0).below (by decide) hb))
  have HI := Lib.hid (fun W => isZero_any n g c W)
  have HI' := Lib.hid (fun W => isZero_any n' g' c' W)
  have hl0 : w.heap.size < w0.heap.size := by omega
  have hl1 : w.heap.size + 1 < w0.heap.size := by omega
  have hl2 : w.heap.size + 1 + 1 < w0.heap.size := by omega
  have HW0 := Lib.hid hw0
  have HSZ := Lib.hid hsz
  have HR := Lib.hid hR
  have HRR := Lib.hid (hr.below (by decide) hB0)
  have HRR' := Lib.hid (hr'.below (by decide) hB0)
  have HB0 := Lib.hid hB0
  have HNN := Lib.hid hn
  have HNN' := Lib.hid hn'
  have HPS := Lib.hid hps
  clear hr hr' hps hn hn' hw0 hB0 hA hBx hR hsz
  by_cases h1 : n = 0
  · rw [decide_eq_true h1] at HI
    have HYA : Hid (alike ps qs = true) := Lib.hid (by
      have e := HNN.out
      rw [h1] at e
      rw [List.length_eq_zero_iff.1 e.symm]; rfl)
    clear h1
    go_enter Try.func59, Try.ntmps59
    go_wp2_with fail
    rw [← HW0.out]
    refine wp_region_held_drew (S := (fun w' => w'.cell? ⟨w.heap.size, 0, none⟩ = some (.func (.func 57) #[] #[]) ∧ w'.cell? ⟨w.heap.size, 1, none⟩ = some (.slice (some ⟨g, 0, none⟩) n c) ∧ w'.cell? ⟨w.heap.size + 1, 0, none⟩ = some (.func (.func 57) #[] #[]) ∧ w'.cell? ⟨w.heap.size + 1, 1, none⟩ = some (.slice (some ⟨g', 0, none⟩) n' c'))) (by kernel_rfl) (by exact ⟨a0, a1, b0, b1⟩) (fun hHeld => ?_)
    refine wpAnyH_take (i := 0) (oi := { dst := some 6, op := Op.load 65 (Operand.tmp 2), type := 65, pos := "l3_sums.go:219", after := #[], guard := none }) (v := ?_) rfl (by kernel_rfl) (by kernel_rfl) (by kernel_rfl) (fun _ _ _ h => h) (Or.inl ⟨by rfl, ?_⟩) (by assumption) ?_
    rotate_left
    · (intro w hSw; (try dsimp only at hSw); go_simp <;> with_reducible rfl)
    (try simp only [Act.put, List.setIfInBounds_toArray, List.set_cons_zero, List.set_cons_succ])
    refine wpAnyH_ready (rs := [1]) (by kernel_rfl) (by simp) ?_
    refine AllReadyH.cons (o := { dst := some 7, op := Op.call { callee := Callee.value (Operand.func 95), args := #[Operand.tmp 6], argTypes := #[65] }, type := 4, pos := "l3_sums.go:219", after := #[{ on := 0, ground := Ground.data }], guard := none }) rfl (fun K hK => ?_) AllReadyH.nil
    go_simp
    go_wp2_with (go_at_call 95; refine (HI.out _).mono ?_; rintro e w3 ⟨rfl, hB⟩; have hb := (Below.refl w0.heap.size w0).drew.trans hB; have y0 := keep1 hb a0; have y1 := keep1 hb a1; have y2 := keep1 hb b0; have y3 := keep1 hb b1; have HC3 := Lib.hid hb; clear hB hb)
    refine hK.out _ _ ?_ (fun hHeld => ?_)
    · exact ⟨y0, y1, y2, y3⟩
    clear hK K
    (try simp only [Act.put, List.setIfInBounds_toArray, List.set_cons_zero, List.set_cons_succ])
    refine wpAnyH_take (i := 2) (oi := { dst := some 8, op := Op.unOp UnOp.not 4 (Operand.tmp 7), type := 4, pos := "l3_sums.go:219", after := #[{ on := 1, ground := Ground.data }], guard := none }) (v := ?_) rfl (by kernel_rfl) (by kernel_rfl) (by kernel_rfl) (fun _ _ _ h => h) (Or.inl ⟨by rfl, ?_⟩) (by assumption) ?_
    rotate_left
    · (intro w hSw; (try dsimp only at hSw); go_simp <;> with_reducible rfl)
    (try simp only [Act.put, List.setIfInBounds_toArray, List.set_cons_zero, List.set_cons_succ])
    refine wpAnyH_take (i := 3) (oi := { dst := some 9, op := Op.move (Operand.tmp 8), type := 4, pos := "l3_sums.go:219", after := #[{ on := 2, ground := Ground.data }, { on := 1, ground := Ground.chain }], guard := none }) (v := ?_) rfl (by kernel_rfl) (by kernel_rfl) (by kernel_rfl) (fun _ _ _ h => h) (Or.inl ⟨by rfl, ?_⟩) (by assumption) ?_
    rotate_left
    · (intro w hSw; (try dsimp only at hSw); go_simp <;> with_reducible rfl)
    (try simp only [Act.put, List.setIfInBounds_toArray, List.set_cons_zero, List.set_cons_succ])
    refine wpAnyH_take (i := 4) (oi := { dst := some 10, op := Op.load 65 (Operand.tmp 3), type := 65, pos := "l3_sums.go:219", after := #[{ on := 3, ground := Ground.guard }], guard := some (3, true) }) (v := undef) rfl (by kernel_rfl) (by kernel_rfl) (by kernel_rfl) (fun _ _ _ h => h) (Or.inr ⟨by rfl, rfl⟩) (by assumption) ?_
    (try simp only [Act.put, List.setIfInBounds_toArray, List.set_cons_zero, List.set_cons_succ])
    refine wpAnyH_take (i := 5) (oi := { dst := some 11, op := Op.call { callee := Callee.value (Operand.func 95), args := #[Operand.tmp 10], argTypes := #[65] }, type := 4, pos := "l3_sums.go:219", after := #[{ on := 4, ground := Ground.data }, { on := 3, ground := Ground.chain }, { on := 3, ground := Ground.guard }], guard := some (3, true) }) (v := undef) rfl (by kernel_rfl) (by kernel_rfl) (by kernel_rfl) (fun _ _ _ h => h) (Or.inr ⟨by rfl, rfl⟩) (by assumption) ?_
    (try simp only [Act.put, List.setIfInBounds_toArray, List.set_cons_zero, List.set_cons_succ])
    refine wpAnyH_take (i := 6) (oi := { dst := some 12, op := Op.unOp UnOp.not 4 (Operand.tmp 11), type := 4, pos := "l3_sums.go:219", after := #[{ on := 5, ground := Ground.data }, { on := 3, ground := Ground.guard }], guard := some (3, true) }) (v := undef) rfl (by kernel_rfl) (by kernel_rfl) (by kernel_rfl) (fun _ _ _ h => h) (Or.inr ⟨by rfl, rfl⟩) (by assumption) ?_
    (try simp only [Act.put, List.setIfInBounds_toArray, List.set_cons_zero, List.set_cons_succ])
    refine wpAnyH_take (i := 7) (oi := { dst := some 13, op := Op.pick (Operand.tmp 9) (Operand.tmp 12) (Operand.const (Value.bool false)), type := 4, pos := "l3_sums.go:219", after := #[{ on := 3, ground := Ground.data }, { on := 6, ground := Ground.data }], guard := none }) (v := ?_) rfl (by kernel_rfl) (by kernel_rfl) (by kernel_rfl) (fun _ _ _ h => h) (Or.inl ⟨by rfl, ?_⟩) (by assumption) ?_
    rotate_left
    · (intro w hSw; (try dsimp only at hSw); go_simp <;> with_reducible rfl)
    (try simp only [Act.put, List.setIfInBounds_toArray, List.set_cons_zero, List.set_cons_succ])
    refine wpAnyH_take (i := 8) (oi := { dst := some 14, op := Op.move (Operand.tmp 13), type := 4, pos := "l3_sums.go:219", after := #[{ on := 7, ground := Ground.data }, { on := 5, ground := Ground.chain }], guard := none }) (v := ?_) rfl (by kernel_rfl) (by kernel_rfl) (by kernel_rfl) (fun _ _ _ h => h) (Or.inl ⟨by rfl, ?_⟩) (by assumption) ?_
    rotate_left
    · (intro w hSw; (try dsimp only at hSw); go_simp <;> with_reducible rfl)
    (try simp only [Act.put, List.setIfInBounds_toArray, List.set_cons_zero, List.set_cons_succ])
    refine wpAnyH_take (i := 9) (oi := { dst := some 15, op := Op.load 65 (Operand.tmp 2), type := 65, pos := "l3_sums.go:219", after := #[{ on := 8, ground := Ground.guard }], guard := some (8, true) }) (v := undef) rfl (by kernel_rfl) (by kernel_rfl) (by kernel_rfl) (fun _ _ _ h => h) (Or.inr ⟨by rfl, rfl⟩) (by assumption) ?_
    (try simp only [Act.put, List.setIfInBounds_toArray, List.set_cons_zero, List.set_cons_succ])
    refine wpAnyH_take (i := 10) (oi := { dst := some 16, op := Op.call { callee := Callee.value (Operand.func 96), args := #[Operand.tmp 15], argTypes := #[65] }, type := 3, pos := "l3_sums.go:219", after := #[{ on := 9, ground := Ground.data }, { on := 8, ground := Ground.chain }, { on := 8, ground := Ground.guard }], guard := some (8, true) }) (v := undef) rfl (by kernel_rfl) (by kernel_rfl) (by kernel_rfl) (fun _ _ _ h => h) (Or.inr ⟨by rfl, rfl⟩) (by assumption) ?_
    (try simp only [Act.put, List.setIfInBounds_toArray, List.set_cons_zero, List.set_cons_succ])
    refine wpAnyH_take (i := 11) (oi := { dst := some 17, op := Op.load 65 (Operand.tmp 3), type := 65, pos := "l3_sums.go:219", after := #[{ on := 8, ground := Ground.guard }], guard := some (8, true) }) (v := undef) rfl (by kernel_rfl) (by kernel_rfl) (by kernel_rfl) (fun _ _ _ h => h) (Or.inr ⟨by rfl, rfl⟩) (by assumption) ?_
    (try simp only [Act.put, List.setIfInBounds_toArray, List.set_cons_zero, List.set_cons_succ])
    refine wpAnyH_take (i := 12) (oi := { dst := some 18, op := Op.call { callee := Callee.value (Operand.func 96), args := #[Operand.tmp 17], argTypes := #[65] }, type := 3, pos := "l3_sums.go:219", after := #[{ on := 11, ground := Ground.data }, { on := 10, ground := Ground.chain }, { on := 8, ground := Ground.guard }], guard := some (8, true) }) (v := undef) rfl (by kernel_rfl) (by kernel_rfl) (by kernel_rfl) (fun _ _ _ h => h) (Or.inr ⟨by rfl, rfl⟩) (by assumption) ?_
    (try simp only [Act.put, List.setIfInBounds_toArray, List.set_cons_zero, List.set_cons_succ])
    refine wpAnyH_take (i := 13) (oi := { dst := some 19, op := Op.binOp BinOp.neq 3 (Operand.tmp 16) (Operand.tmp 18) 3, type := 4, pos := "l3_sums.go:219", after := #[{ on := 10, ground := Ground.data }, { on := 12, ground := Ground.data }, { on := 8, ground := Ground.guard }], guard := some (8, true) }) (v := undef) rfl (by kernel_rfl) (by kernel_rfl) (by kernel_rfl) (fun _ _ _ h => h) (Or.inr ⟨by rfl, rfl⟩) (by assumption) ?_
    (try simp only [Act.put, List.setIfInBounds_toArray, List.set_cons_zero, List.set_cons_succ])
    refine wpAnyH_take (i := 14) (oi := { dst := some 20, op := Op.pick (Operand.tmp 14) (Operand.tmp 19) (Operand.const (Value.bool false)), type := 4, pos := "l3_sums.go:219", after := #[{ on := 8, ground := Ground.data }, { on := 13, ground := Ground.data }], guard := none }) (v := ?_) rfl (by kernel_rfl) (by kernel_rfl) (by kernel_rfl) (fun _ _ _ h => h) (Or.inl ⟨by rfl, ?_⟩) (by assumption) ?_
    rotate_left
    · (intro w hSw; (try dsimp only at hSw); go_simp <;> with_reducible rfl)
    (try simp only [Act.put, List.setIfInBounds_toArray, List.set_cons_zero, List.set_cons_succ])
    refine wpAnyH_done (by kernel_rfl) ?_ _
    all_goals
      go_wp2_with fail
      refine (HP.out _ HC3.out).mono ?_
      rintro e u6 ⟨hB6, g6, c6, rfl, hr6⟩
      have hb6 := HC3.out.trans (hB6.mono HC3.out.size)
      obtain ⟨r0, r1, fr0, fr1⟩ := two_cells ((hb6.block _ hl2).trans HR.out)
      have HB6 := Lib.hid hb6
      have HR6 := Lib.hid hr6
      have hs6 := hb6.size
      have hs5 := HC3.out.size
      clear hB6 hb6 hr6
      go_wp2_with fail
      refine bodyPost_ret (v := .tuple #[.agg #[(.func (.func 57) #[] #[]), .slice (some ⟨g6, 0, none⟩) (canon (ps ++ qs)).length c6], .bool true]) (by simp [results, Try.results59, go_sem, r0, r1]) rfl ?_
      refine ⟨((below_step HB0.out HB6.out).setCell (p := ⟨w.heap.size + 1 + 1, 0, none⟩) (by simp; omega) _).setCell (p := ⟨w.heap.size + 1 + 1, 1, none⟩) (by simp; omega) _, .inr ⟨HYA.out, g6, c6, rfl, ?_⟩⟩
      have h2 := HSZ.out
      refine HR6.out.keep (by decide) (fun q u hq hu => ?_) (fun b h _ => trivial)
      have hne : q.block ≠ w.heap.size + 1 + 1 := by
        rcases hq with h | h
        · omega
        · omega
      exact cell_put_two hu hne _ _
  · rw [decide_eq_false h1] at HI
    by_cases h2 : n' = 0
    · rw [decide_eq_true h2] at HI'
      have HYA : Hid (alike ps qs = true) := Lib.hid (by
        have e := HNN'.out
        rw [h2] at e
        rw [List.length_eq_zero_iff.1 e.symm]; cases ps <;> rfl)
      clear h1 h2
      go_enter Try.func59, Try.ntmps59
      go_wp2_with fail
      rw [← HW0.out]
      refine wp_region_held_drew (S := (fun w' => w'.cell? ⟨w.heap.size, 0, none⟩ = some (.func (.func 57) #[] #[]) ∧ w'.cell? ⟨w.heap.size, 1, none⟩ = some (.slice (some ⟨g, 0, none⟩) n c) ∧ w'.cell? ⟨w.heap.size + 1, 0, none⟩ = some (.func (.func 57) #[] #[]) ∧ w'.cell? ⟨w.heap.size + 1, 1, none⟩ = some (.slice (some ⟨g', 0, none⟩) n' c'))) (by kernel_rfl) (by exact ⟨a0, a1, b0, b1⟩) (fun hHeld => ?_)
      refine wpAnyH_take (i := 0) (oi := { dst := some 6, op := Op.load 65 (Operand.tmp 2), type := 65, pos := "l3_sums.go:219", after := #[], guard := none }) (v := ?_) rfl (by kernel_rfl) (by kernel_rfl) (by kernel_rfl) (fun _ _ _ h => h) (Or.inl ⟨by rfl, ?_⟩) (by assumption) ?_
      rotate_left
      · (intro w hSw; (try dsimp only at hSw); go_simp <;> with_reducible rfl)
      (try simp only [Act.put, List.setIfInBounds_toArray, List.set_cons_zero, List.set_cons_succ])
      refine wpAnyH_ready (rs := [1]) (by kernel_rfl) (by simp) ?_
      refine AllReadyH.cons (o := { dst := some 7, op := Op.call { callee := Callee.value (Operand.func 95), args := #[Operand.tmp 6], argTypes := #[65] }, type := 4, pos := "l3_sums.go:219", after := #[{ on := 0, ground := Ground.data }], guard := none }) rfl (fun K hK => ?_) AllReadyH.nil
      go_simp
      go_wp2_with (go_at_call 95; refine (HI.out _).mono ?_; rintro e w3 ⟨rfl, hB⟩; have hb := (Below.refl w0.heap.size w0).drew.trans hB; have y0 := keep1 hb a0; have y1 := keep1 hb a1; have y2 := keep1 hb b0; have y3 := keep1 hb b1; have HC3 := Lib.hid hb; clear hB hb)
      refine hK.out _ _ ?_ (fun hHeld => ?_)
      · exact ⟨y0, y1, y2, y3⟩
      clear hK K
      (try simp only [Act.put, List.setIfInBounds_toArray, List.set_cons_zero, List.set_cons_succ])
      refine wpAnyH_take (i := 2) (oi := { dst := some 8, op := Op.unOp UnOp.not 4 (Operand.tmp 7), type := 4, pos := "l3_sums.go:219", after := #[{ on := 1, ground := Ground.data }], guard := none }) (v := ?_) rfl (by kernel_rfl) (by kernel_rfl) (by kernel_rfl) (fun _ _ _ h => h) (Or.inl ⟨by rfl, ?_⟩) (by assumption) ?_
      rotate_left
      · (intro w hSw; (try dsimp only at hSw); go_simp <;> with_reducible rfl)
      (try simp only [Act.put, List.setIfInBounds_toArray, List.set_cons_zero, List.set_cons_succ])
      refine wpAnyH_take (i := 3) (oi := { dst := some 9, op := Op.move (Operand.tmp 8), type := 4, pos := "l3_sums.go:219", after := #[{ on := 2, ground := Ground.data }, { on := 1, ground := Ground.chain }], guard := none }) (v := ?_) rfl (by kernel_rfl) (by kernel_rfl) (by kernel_rfl) (fun _ _ _ h => h) (Or.inl ⟨by rfl, ?_⟩) (by assumption) ?_
      rotate_left
      · (intro w hSw; (try dsimp only at hSw); go_simp <;> with_reducible rfl)
      (try simp only [Act.put, List.setIfInBounds_toArray, List.set_cons_zero, List.set_cons_succ])
      refine wpAnyH_take (i := 4) (oi := { dst := some 10, op := Op.load 65 (Operand.tmp 3), type := 65, pos := "l3_sums.go:219", after := #[{ on := 3, ground := Ground.guard }], guard := some (3, true) }) (v := ?_) rfl (by kernel_rfl) (by kernel_rfl) (by kernel_rfl) (fun _ _ _ h => h) (Or.inl ⟨by rfl, ?_⟩) (by assumption) ?_
      rotate_left
      · (intro w hSw; (try dsimp only at hSw); go_simp <;> with_reducible rfl)
      (try simp only [Act.put, List.setIfInBounds_toArray, List.set_cons_zero, List.set_cons_succ])
      refine wpAnyH_ready (rs := [5]) (by kernel_rfl) (by simp) ?_
      refine AllReadyH.cons (o := { dst := some 11, op := Op.call { callee := Callee.value (Operand.func 95), args := #[Operand.tmp 10], argTypes := #[65] }, type := 4, pos := "l3_sums.go:219", after := #[{ on := 4, ground := Ground.data }, { on := 3, ground := Ground.chain }, { on := 3, ground := Ground.guard }], guard := some (3, true) }) rfl (fun K hK => ?_) AllReadyH.nil
      go_simp
      go_wp2_with (go_at_call 95; refine (HI'.out _).mono ?_; rintro e w4 ⟨rfl, hB⟩; have hb := HC3.out.trans (hB.mono HC3.out.size); have z0 := keep1 hb a0; have z1 := keep1 hb a1; have z2 := keep1 hb b0; have z3 := keep1 hb b1; have HC4 := Lib.hid hb; clear hB hb)
      refine hK.out _ _ ?_ (fun hHeld => ?_)
      · exact ⟨z0, z1, z2, z3⟩
      clear hK K
      (try simp only [Act.put, List.setIfInBounds_toArray, List.set_cons_zero, List.set_cons_succ])
      refine wpAnyH_take (i := 6) (oi := { dst := some 12, op := Op.unOp UnOp.not 4 (Operand.tmp 11), type := 4, pos := "l3_sums.go:219", after := #[{ on := 5, ground := Ground.data }, { on := 3, ground := Ground.guard }], guard := some (3, true) }) (v := ?_) rfl (by kernel_rfl) (by kernel_rfl) (by kernel_rfl) (fun _ _ _ h => h) (Or.inl ⟨by rfl, ?_⟩) (by assumption) ?_
      rotate_left
      · (intro w hSw; (try dsimp only at hSw); go_simp <;> with_reducible rfl)
      (try simp only [Act.put, List.setIfInBounds_toArray, List.set_cons_zero, List.set_cons_succ])
      refine wpAnyH_take (i := 7) (oi := { dst := some 13, op := Op.pick (Operand.tmp 9) (Operand.tmp 12) (Operand.const (Value.bool false)), type := 4, pos := "l3_sums.go:219", after := #[{ on := 3, ground := Ground.data }, { on := 6, ground := Ground.data }], guard := none }) (v := ?_) rfl (by kernel_rfl) (by kernel_rfl) (by kernel_rfl) (fun _ _ _ h => h) (Or.inl ⟨by rfl, ?_⟩) (by assumption) ?_
      rotate_left
      · (intro w hSw; (try dsimp only at hSw); go_simp <;> with_reducible rfl)
      (try simp only [Act.put, List.setIfInBounds_toArray, List.set_cons_zero, List.set_cons_succ])
      refine wpAnyH_take (i := 8) (oi := { dst := some 14, op := Op.move (Operand.tmp 13), type := 4, pos := "l3_sums.go:219", after := #[{ on := 7, ground := Ground.data }, { on := 5, ground := Ground.chain }], guard := none }) (v := ?_) rfl (by kernel_rfl) (by kernel_rfl) (by kernel_rfl) (fun _ _ _ h => h) (Or.inl ⟨by rfl, ?_⟩) (by assumption) ?_
      rotate_left
      · (intro w hSw; (try dsimp only at hSw); go_simp <;> with_reducible rfl)
      (try simp only [Act.put, List.setIfInBounds_toArray, List.set_cons_zero, List.set_cons_succ])
      refine wpAnyH_take (i := 9) (oi := { dst := some 15, op := Op.load 65 (Operand.tmp 2), type := 65, pos := "l3_sums.go:219", after := #[{ on := 8, ground := Ground.guard }], guard := some (8, true) }) (v := undef) rfl (by kernel_rfl) (by kernel_rfl) (by kernel_rfl) (fun _ _ _ h => h) (Or.inr ⟨by rfl, rfl⟩) (by assumption) ?_
      (try simp only [Act.put, List.setIfInBounds_toArray, List.set_cons_zero, List.set_cons_succ])
      refine wpAnyH_take (i := 10) (oi := { dst := some 16, op := Op.call { callee := Callee.value (Operand.func 96), args := #[Operand.tmp 15], argTypes := #[65] }, type := 3, pos := "l3_sums.go:219", after := #[{ on := 9, ground := Ground.data }, { on := 8, ground := Ground.chain }, { on := 8, ground := Ground.guard }], guard := some (8, true) }) (v := undef) rfl (by kernel_rfl) (by kernel_rfl) (by kernel_rfl) (fun _ _ _ h => h) (Or.inr ⟨by rfl, rfl⟩) (by assumption) ?_
      (try simp only [Act.put, List.setIfInBounds_toArray, List.set_cons_zero, List.set_cons_succ])
      refine wpAnyH_take (i := 11) (oi := { dst := some 17, op := Op.load 65 (Operand.tmp 3), type := 65, pos := "l3_sums.go:219", after := #[{ on := 8, ground := Ground.guard }], guard := some (8, true) }) (v := undef) rfl (by kernel_rfl) (by kernel_rfl) (by kernel_rfl) (fun _ _ _ h => h) (Or.inr ⟨by rfl, rfl⟩) (by assumption) ?_
      (try simp only [Act.put, List.setIfInBounds_toArray, List.set_cons_zero, List.set_cons_succ])
      refine wpAnyH_take (i := 12) (oi := { dst := some 18, op := Op.call { callee := Callee.value (Operand.func 96), args := #[Operand.tmp 17], argTypes := #[65] }, type := 3, pos := "l3_sums.go:219", after := #[{ on := 11, ground := Ground.data }, { on := 10, ground := Ground.chain }, { on := 8, ground := Ground.guard }], guard := some (8, true) }) (v := undef) rfl (by kernel_rfl) (by kernel_rfl) (by kernel_rfl) (fun _ _ _ h => h) (Or.inr ⟨by rfl, rfl⟩) (by assumption) ?_
      (try simp only [Act.put, List.setIfInBounds_toArray, List.set_cons_zero, List.set_cons_succ])
      refine wpAnyH_take (i := 13) (oi := { dst := some 19, op := Op.binOp BinOp.neq 3 (Operand.tmp 16) (Operand.tmp 18) 3, type := 4, pos := "l3_sums.go:219", after := #[{ on := 10, ground := Ground.data }, { on := 12, ground := Ground.data }, { on := 8, ground := Ground.guard }], guard := some (8, true) }) (v := undef) rfl (by kernel_rfl) (by kernel_rfl) (by kernel_rfl) (fun _ _ _ h => h) (Or.inr ⟨by rfl, rfl⟩) (by assumption) ?_
      (try simp only [Act.put, List.setIfInBounds_toArray, List.set_cons_zero, List.set_cons_succ])
      refine wpAnyH_take (i := 14) (oi := { dst := some 20, op := Op.pick (Operand.tmp 14) (Operand.tmp 19) (Operand.const (Value.bool false)), type := 4, pos := "l3_sums.go:219", after := #[{ on := 8, ground := Ground.data }, { on := 13, ground := Ground.data }], guard := none }) (v := ?_) rfl (by kernel_rfl) (by kernel_rfl) (by kernel_rfl) (fun _ _ _ h => h) (Or.inl ⟨by rfl, ?_⟩) (by assumption) ?_
      rotate_left
      · (intro w hSw; (try dsimp only at hSw); go_simp <;> with_reducible rfl)
      (try simp only [Act.put, List.setIfInBounds_toArray, List.set_cons_zero, List.set_cons_succ])
      refine wpAnyH_done (by kernel_rfl) ?_ _
      all_goals
        go_wp2_with fail
        refine (HP.out _ HC4.out).mono ?_
        rintro e u6 ⟨hB6, g6, c6, rfl, hr6⟩
        have hb6 := HC4.out.trans (hB6.mono HC4.out.size)
        obtain ⟨r0, r1, fr0, fr1⟩ := two_cells ((hb6.block _ hl2).trans HR.out)
        have HB6 := Lib.hid hb6
        have HR6 := Lib.hid hr6
        have hs6 := hb6.size
        have hs5 := HC4.out.size
        clear hB6 hb6 hr6
        go_wp2_with fail
        refine bodyPost_ret (v := .tuple #[.agg #[(.func (.func 57) #[] #[]), .slice (some ⟨g6, 0, none⟩) (canon (ps ++ qs)).length c6], .bool true]) (by simp [results, Try.results59, go_sem, r0, r1]) rfl ?_
        refine ⟨((below_step HB0.out HB6.out).setCell (p := ⟨w.heap.size + 1 + 1, 0, none⟩) (by simp; omega) _).setCell (p := ⟨w.heap.size + 1 + 1, 1, none⟩) (by simp; omega) _, .inr ⟨HYA.out, g6, c6, rfl, ?_⟩⟩
        have h2 := HSZ.out
        refine HR6.out.keep (by decide) (fun q u hq hu => ?_) (fun b h _ => trivial)
        have hne : q.block ≠ w.heap.size + 1 + 1 := by
          rcases hq with h | h
          · omega
          · omega
        exact cell_put_two hu hne _ _
    · rw [decide_eq_false h2] at HI'
      obtain ⟨p, ps', hp0⟩ : ∃ p ps', ps = p :: ps' := by
        cases ps with
        | nil => exact absurd HNN.out h1
        | cons p ps' => exact ⟨p, ps', rfl⟩
      obtain ⟨q, qs', hq0⟩ : ∃ q qs', qs = q :: qs' := by
        cases qs with
        | nil => exact absurd HNN'.out h2
        | cons q qs' => exact ⟨q, qs', rfl⟩
      obtain ⟨L, hL⟩ : ∃ L, L = p.2.leaves := ⟨_, rfl⟩
      obtain ⟨L', hL'⟩ : ∃ L, L = q.2.leaves := ⟨_, rfl⟩
      have hpp := HPS.out p (by rw [hp0]; simp)
      have hqq := HPS.out q (by rw [hq0]; simp)
      have HL := Lib.hid (fun (W : World) (hb : Below w0.heap.size w0 W) => sumLeaves_any p ps' n g c L W (by omega) hpp.1 (by omega) hL (by have h := HRR.out; rw [hp0] at h; exact h.below (by decide) hb))
      have HL' := Lib.hid (fun (W : World) (hb : Below w0.heap.size w0 W) => sumLeaves_any q qs' n' g' c' L' W (by omega) hqq.1 (by omega) hL' (by have h := HRR'.out; rw [hq0] at h; exact h.below (by decide) hb))
      have HAL : Hid (alike ps qs = decide (L = L')) := Lib.hid (by rw [hp0, hq0, hL, hL']; rfl)
      clear h1 h2 hpp hqq hL hL' hp0 hq0
      by_cases hLL : L = L'
      · have HYA : Hid (alike ps qs = true) := Lib.hid (by rw [HAL.out]; exact decide_eq_true hLL)
        have l1 : ((L : Int) != (L' : Int)) = false := by simp; omega
        have l2 : ((L : Int) == (L' : Int)) = true := by simp; omega
        have l3 : (L != L') = false := by simpa using hLL
        have l4 : (L == L') = true := by simpa using hLL
        go_enter Try.func59, Try.ntmps59
        go_wp2_with fail
        rw [← HW0.out]
        refine wp_region_held_drew (S := (fun w' => w'.cell? ⟨w.heap.size, 0, none⟩ = some (.func (.func 57) #[] #[]) ∧ w'.cell? ⟨w.heap.size, 1, none⟩ = some (.slice (some ⟨g, 0, none⟩) n c) ∧ w'.cell? ⟨w.heap.size + 1, 0, none⟩ = some (.func (.func 57) #[] #[]) ∧ w'.cell? ⟨w.heap.size + 1, 1, none⟩ = some (.slice (some ⟨g', 0, none⟩) n' c'))) (by kernel_rfl) (by exact ⟨a0, a1, b0, b1⟩) (fun hHeld => ?_)
        refine wpAnyH_take (i := 0) (oi := { dst := some 6, op := Op.load 65 (Operand.tmp 2), type := 65, pos := "l3_sums.go:219", after := #[], guard := none }) (v := ?_) rfl (by kernel_rfl) (by kernel_rfl) (by kernel_rfl) (fun _ _ _ h => h) (Or.inl ⟨by rfl, ?_⟩) (by assumption) ?_
        rotate_left
        · (intro w hSw; (try dsimp only at hSw); go_simp <;> with_reducible rfl)
        (try simp only [Act.put, List.setIfInBounds_toArray, List.set_cons_zero, List.set_cons_succ])
        refine wpAnyH_ready (rs := [1]) (by kernel_rfl) (by simp) ?_
        refine AllReadyH.cons (o := { dst := some 7, op := Op.call { callee := Callee.value (Operand.func 95), args := #[Operand.tmp 6], argTypes := #[65] }, type := 4, pos := "l3_sums.go:219", after := #[{ on := 0, ground := Ground.data }], guard := none }) rfl (fun K hK => ?_) AllReadyH.nil
        go_simp
        go_wp2_with (go_at_call 95; refine (HI.out _).mono ?_; rintro e w3 ⟨rfl, hB⟩; have hb := (Below.refl w0.heap.size w0).drew.trans hB; have y0 := keep1 hb a0; have y1 := keep1 hb a1; have y2 := keep1 hb b0; have y3 := keep1 hb b1; have HC3 := Lib.hid hb; clear hB hb)
        refine hK.out _ _ ?_ (fun hHeld => ?_)
        · exact ⟨y0, y1, y2, y3⟩
        clear hK K
        (try simp only [Act.put, List.setIfInBounds_toArray, List.set_cons_zero, List.set_cons_succ])
        refine wpAnyH_take (i := 2) (oi := { dst := some 8, op := Op.unOp UnOp.not 4 (Operand.tmp 7), type := 4, pos := "l3_sums.go:219", after := #[{ on := 1, ground := Ground.data }], guard := none }) (v := ?_) rfl (by kernel_rfl) (by kernel_rfl) (by kernel_rfl) (fun _ _ _ h => h) (Or.inl ⟨by rfl, ?_⟩) (by assumption) ?_
        rotate_left
        · (intro w hSw; (try dsimp only at hSw); go_simp <;> with_reducible rfl)
        (try simp only [Act.put, List.setIfInBounds_toArray, List.set_cons_zero, List.set_cons_succ])
        refine wpAnyH_take (i := 3) (oi := { dst := some 9, op := Op.move (Operand.tmp 8), type := 4, pos := "l3_sums.go:219", after := #[{ on := 2, ground := Ground.data }, { on := 1, ground := Ground.chain }], guard := none }) (v := ?_) rfl (by kernel_rfl) (by kernel_rfl) (by kernel_rfl) (fun _ _ _ h => h) (Or.inl ⟨by rfl, ?_⟩) (by assumption) ?_
        rotate_left
        · (intro w hSw; (try dsimp only at hSw); go_simp <;> with_reducible rfl)
        (try simp only [Act.put, List.setIfInBounds_toArray, List.set_cons_zero, List.set_cons_succ])
        refine wpAnyH_take (i := 4) (oi := { dst := some 10, op := Op.load 65 (Operand.tmp 3), type := 65, pos := "l3_sums.go:219", after := #[{ on := 3, ground := Ground.guard }], guard := some (3, true) }) (v := ?_) rfl (by kernel_rfl) (by kernel_rfl) (by kernel_rfl) (fun _ _ _ h => h) (Or.inl ⟨by rfl, ?_⟩) (by assumption) ?_
        rotate_left
        · (intro w hSw; (try dsimp only at hSw); go_simp <;> with_reducible rfl)
        (try simp only [Act.put, List.setIfInBounds_toArray, List.set_cons_zero, List.set_cons_succ])
        refine wpAnyH_ready (rs := [5]) (by kernel_rfl) (by simp) ?_
        refine AllReadyH.cons (o := { dst := some 11, op := Op.call { callee := Callee.value (Operand.func 95), args := #[Operand.tmp 10], argTypes := #[65] }, type := 4, pos := "l3_sums.go:219", after := #[{ on := 4, ground := Ground.data }, { on := 3, ground := Ground.chain }, { on := 3, ground := Ground.guard }], guard := some (3, true) }) rfl (fun K hK => ?_) AllReadyH.nil
        go_simp
        go_wp2_with (go_at_call 95; refine (HI'.out _).mono ?_; rintro e w4 ⟨rfl, hB⟩; have hb := HC3.out.trans (hB.mono HC3.out.size); have z0 := keep1 hb a0; have z1 := keep1 hb a1; have z2 := keep1 hb b0; have z3 := keep1 hb b1; have HC4 := Lib.hid hb; clear hB hb)
        refine hK.out _ _ ?_ (fun hHeld => ?_)
        · exact ⟨z0, z1, z2, z3⟩
        clear hK K
        (try simp only [Act.put, List.setIfInBounds_toArray, List.set_cons_zero, List.set_cons_succ])
        refine wpAnyH_take (i := 6) (oi := { dst := some 12, op := Op.unOp UnOp.not 4 (Operand.tmp 11), type := 4, pos := "l3_sums.go:219", after := #[{ on := 5, ground := Ground.data }, { on := 3, ground := Ground.guard }], guard := some (3, true) }) (v := ?_) rfl (by kernel_rfl) (by kernel_rfl) (by kernel_rfl) (fun _ _ _ h => h) (Or.inl ⟨by rfl, ?_⟩) (by assumption) ?_
        rotate_left
        · (intro w hSw; (try dsimp only at hSw); go_simp <;> with_reducible rfl)
        (try simp only [Act.put, List.setIfInBounds_toArray, List.set_cons_zero, List.set_cons_succ])
        refine wpAnyH_take (i := 7) (oi := { dst := some 13, op := Op.pick (Operand.tmp 9) (Operand.tmp 12) (Operand.const (Value.bool false)), type := 4, pos := "l3_sums.go:219", after := #[{ on := 3, ground := Ground.data }, { on := 6, ground := Ground.data }], guard := none }) (v := ?_) rfl (by kernel_rfl) (by kernel_rfl) (by kernel_rfl) (fun _ _ _ h => h) (Or.inl ⟨by rfl, ?_⟩) (by assumption) ?_
        rotate_left
        · (intro w hSw; (try dsimp only at hSw); go_simp <;> with_reducible rfl)
        (try simp only [Act.put, List.setIfInBounds_toArray, List.set_cons_zero, List.set_cons_succ])
        refine wpAnyH_take (i := 8) (oi := { dst := some 14, op := Op.move (Operand.tmp 13), type := 4, pos := "l3_sums.go:219", after := #[{ on := 7, ground := Ground.data }, { on := 5, ground := Ground.chain }], guard := none }) (v := ?_) rfl (by kernel_rfl) (by kernel_rfl) (by kernel_rfl) (fun _ _ _ h => h) (Or.inl ⟨by rfl, ?_⟩) (by assumption) ?_
        rotate_left
        · (intro w hSw; (try dsimp only at hSw); go_simp <;> with_reducible rfl)
        (try simp only [Act.put, List.setIfInBounds_toArray, List.set_cons_zero, List.set_cons_succ])
        refine wpAnyH_take (i := 9) (oi := { dst := some 15, op := Op.load 65 (Operand.tmp 2), type := 65, pos := "l3_sums.go:219", after := #[{ on := 8, ground := Ground.guard }], guard := some (8, true) }) (v := ?_) rfl (by kernel_rfl) (by kernel_rfl) (by kernel_rfl) (fun _ _ _ h => h) (Or.inl ⟨by rfl, ?_⟩) (by assumption) ?_
        rotate_left
        · (intro w hSw; (try dsimp only at hSw); go_simp <;> with_reducible rfl)
        (try simp only [Act.put, List.setIfInBounds_toArray, List.set_cons_zero, List.set_cons_succ])
        refine wpAnyH_take (i := 11) (oi := { dst := some 17, op := Op.load 65 (Operand.tmp 3), type := 65, pos := "l3_sums.go:219", after := #[{ on := 8, ground := Ground.guard }], guard := some (8, true) }) (v := ?_) rfl (by kernel_rfl) (by kernel_rfl) (by kernel_rfl) (fun _ _ _ h => h) (Or.inl ⟨by rfl, ?_⟩) (by assumption) ?_
        rotate_left
        · (intro w hSw; (try dsimp only at hSw); go_simp <;> with_reducible rfl)
        (try simp only [Act.put, List.setIfInBounds_toArray, List.set_cons_zero, List.set_cons_succ])
        refine wpAnyH_ready (rs := [10]) (by kernel_rfl) (by simp) ?_
        refine AllReadyH.cons (o := { dst := some 16, op := Op.call { callee := Callee.value (Operand.func 96), args := #[Operand.tmp 15], argTypes := #[65] }, type := 3, pos := "l3_sums.go:219", after := #[{ on := 9, ground := Ground.data }, { on := 8, ground := Ground.chain }, { on := 8, ground := Ground.guard }], guard := some (8, true) }) rfl (fun K hK => ?_) AllReadyH.nil
        go_simp
        go_wp2_with (go_at_call 96; refine (HL.out _ HC4.out).mono ?_; rintro e w5 ⟨rfl, hB⟩; have hb := HC4.out.trans (hB.mono HC4.out.size); have u0 := keep1 hb a0; have u1 := keep1 hb a1; have u2 := keep1 hb b0; have u3 := keep1 hb b1; have HC5 := Lib.hid hb; clear hB hb)
        refine hK.out _ _ ?_ (fun hHeld => ?_)
        · exact ⟨u0, u1, u2, u3⟩
        clear hK K
        (try simp only [Act.put, List.setIfInBounds_toArray, List.set_cons_zero, List.set_cons_succ])
        refine wpAnyH_ready (rs := [12]) (by kernel_rfl) (by simp) ?_
        refine AllReadyH.cons (o := { dst := some 18, op := Op.call { callee := Callee.value (Operand.func 96), args := #[Operand.tmp 17], argTypes := #[65] }, type := 3, pos := "l3_sums.go:219", after := #[{ on := 11, ground := Ground.data }, { on := 10, ground := Ground.chain }, { on := 8, ground := Ground.guard }], guard := some (8, true) }) rfl (fun K hK => ?_) AllReadyH.nil
        go_simp
        go_wp2_with (go_at_call 96; refine (HL'.out _ HC5.out).mono ?_; rintro e w6 ⟨rfl, hB⟩; have hb := HC5.out.trans (hB.mono HC5.out.size); have v0 := keep1 hb a0; have v1 := keep1 hb a1; have v2 := keep1 hb b0; have v3 := keep1 hb b1; have HC6 := Lib.hid hb; clear hB hb)
        refine hK.out _ _ ?_ (fun hHeld => ?_)
        · exact ⟨v0, v1, v2, v3⟩
        clear hK K
        (try simp only [Act.put, List.setIfInBounds_toArray, List.set_cons_zero, List.set_cons_succ])
        refine wpAnyH_take (i := 13) (oi := { dst := some 19, op := Op.binOp BinOp.neq 3 (Operand.tmp 16) (Operand.tmp 18) 3, type := 4, pos := "l3_sums.go:219", after := #[{ on := 10, ground := Ground.data }, { on := 12, ground := Ground.data }, { on := 8, ground := Ground.guard }], guard := some (8, true) }) (v := ?_) rfl (by kernel_rfl) (by kernel_rfl) (by kernel_rfl) (fun _ _ _ h => h) (Or.inl ⟨by rfl, ?_⟩) (by assumption) ?_
        rotate_left
        · (intro w hSw; (try dsimp only at hSw); go_simp <;> with_reducible rfl)
        (try simp only [Act.put, List.setIfInBounds_toArray, List.set_cons_zero, List.set_cons_succ])
        refine wpAnyH_take (i := 14) (oi := { dst := some 20, op := Op.pick (Operand.tmp 14) (Operand.tmp 19) (Operand.const (Value.bool false)), type := 4, pos := "l3_sums.go:219", after := #[{ on := 8, ground := Ground.data }, { on := 13, ground := Ground.data }], guard := none }) (v := ?_) rfl (by kernel_rfl) (by kernel_rfl) (by kernel_rfl) (fun _ _ _ h => h) (Or.inl ⟨by rfl, ?_⟩) (by assumption) ?_
        rotate_left
        · (intro w hSw; (try dsimp only at hSw); go_simp <;> with_reducible rfl)
        (try simp only [Act.put, List.setIfInBounds_toArray, List.set_cons_zero, List.set_cons_succ])
        refine wpAnyH_done (by kernel_rfl) ?_ _
        all_goals
          go_wp2_with fail
          refine (HP.out _ HC6.out).mono ?_
          rintro e u6 ⟨hB6, g6, c6, rfl, hr6⟩
          have hb6 := HC6.out.trans (hB6.mono HC6.out.size)
          obtain ⟨r0, r1, fr0, fr1⟩ := two_cells ((hb6.block _ hl2).trans HR.out)
          have HB6 := Lib.hid hb6
          have HR6 := Lib.hid hr6
          have hs6 := hb6.size
          have hs5 := HC6.out.size
          clear hB6 hb6 hr6
          go_wp2_with fail
          refine bodyPost_ret (v := .tuple #[.agg #[(.func (.func 57) #[] #[]), .slice (some ⟨g6, 0, none⟩) (canon (ps ++ qs)).length c6], .bool true]) (by simp [results, Try.results59, go_sem, r0, r1]) rfl ?_
          refine ⟨((below_step HB0.out HB6.out).setCell (p := ⟨w.heap.size + 1 + 1, 0, none⟩) (by simp; omega) _).setCell (p := ⟨w.heap.size + 1 + 1, 1, none⟩) (by simp; omega) _, .inr ⟨HYA.out, g6, c6, rfl, ?_⟩⟩
          have h2 := HSZ.out
          refine HR6.out.keep (by decide) (fun q u hq hu => ?_) (fun b h _ => trivial)
          have hne : q.block ≠ w.heap.size + 1 + 1 := by
            rcases hq with h | h
            · omega
            · omega
          exact cell_put_two hu hne _ _
      · have HNA : Hid (alike ps qs = false) := Lib.hid (by rw [HAL.out]; exact decide_eq_false hLL)
        have l1 : ((L : Int) != (L' : Int)) = true := by simp; omega
        have l2 : ((L : Int) == (L' : Int)) = false := by simp; omega
        have l3 : (L != L') = true := by simpa using hLL
        have l4 : (L == L') = false := by simpa using hLL
        go_enter Try.func59, Try.ntmps59
        go_wp2_with fail
        rw [← HW0.out]
        refine wp_region_held_drew (S := (fun w' => w'.cell? ⟨w.heap.size, 0, none⟩ = some (.func (.func 57) #[] #[]) ∧ w'.cell? ⟨w.heap.size, 1, none⟩ = some (.slice (some ⟨g, 0, none⟩) n c) ∧ w'.cell? ⟨w.heap.size + 1, 0, none⟩ = some (.func (.func 57) #[] #[]) ∧ w'.cell? ⟨w.heap.size + 1, 1, none⟩ = some (.slice (some ⟨g', 0, none⟩) n' c'))) (by kernel_rfl) (by exact ⟨a0, a1, b0, b1⟩) (fun hHeld => ?_)
        refine wpAnyH_take (i := 0) (oi := { dst := some 6, op := Op.load 65 (Operand.tmp 2), type := 65, pos := "l3_sums.go:219", after := #[], guard := none }) (v := ?_) rfl (by kernel_rfl) (by kernel_rfl) (by kernel_rfl) (fun _ _ _ h => h) (Or.inl ⟨by rfl, ?_⟩) (by assumption) ?_
        rotate_left
        · (intro w hSw; (try dsimp only at hSw); go_simp <;> with_reducible rfl)
        (try simp only [Act.put, List.setIfInBounds_toArray, List.set_cons_zero, List.set_cons_succ])
        refine wpAnyH_ready (rs := [1]) (by kernel_rfl) (by simp) ?_
        refine AllReadyH.cons (o := { dst := some 7, op := Op.call { callee := Callee.value (Operand.func 95), args := #[Operand.tmp 6], argTypes := #[65] }, type := 4, pos := "l3_sums.go:219", after := #[{ on := 0, ground := Ground.data }], guard := none }) rfl (fun K hK => ?_) AllReadyH.nil
        go_simp
        go_wp2_with (go_at_call 95; refine (HI.out _).mono ?_; rintro e w3 ⟨rfl, hB⟩; have hb := (Below.refl w0.heap.size w0).drew.trans hB; have y0 := keep1 hb a0; have y1 := keep1 hb a1; have y2 := keep1 hb b0; have y3 := keep1 hb b1; have HC3 := Lib.hid hb; clear hB hb)
        refine hK.out _ _ ?_ (fun hHeld => ?_)
        · exact ⟨y0, y1, y2, y3⟩
        clear hK K
        (try simp only [Act.put, List.setIfInBounds_toArray, List.set_cons_zero, List.set_cons_succ])
        refine wpAnyH_take (i := 2) (oi := { dst := some 8, op := Op.unOp UnOp.not 4 (Operand.tmp 7), type := 4, pos := "l3_sums.go:219", after := #[{ on := 1, ground := Ground.data }], guard := none }) (v := ?_) rfl (by kernel_rfl) (by kernel_rfl) (by kernel_rfl) (fun _ _ _ h => h) (Or.inl ⟨by rfl, ?_⟩) (by assumption) ?_
        rotate_left
        · (intro w hSw; (try dsimp only at hSw); go_simp <;> with_reducible rfl)
        (try simp only [Act.put, List.setIfInBounds_toArray, List.set_cons_zero, List.set_cons_succ])
        refine wpAnyH_take (i := 3) (oi := { dst := some 9, op := Op.move (Operand.tmp 8), type := 4, pos := "l3_sums.go:219", after := #[{ on := 2, ground := Ground.data }, { on := 1, ground := Ground.chain }], guard := none }) (v := ?_) rfl (by kernel_rfl) (by kernel_rfl) (by kernel_rfl) (fun _ _ _ h => h) (Or.inl ⟨by rfl, ?_⟩) (by assumption) ?_
        rotate_left
        · (intro w hSw; (try dsimp only at hSw); go_simp <;> with_reducible rfl)
        (try simp only [Act.put, List.setIfInBounds_toArray, List.set_cons_zero, List.set_cons_succ])
        refine wpAnyH_take (i := 4) (oi := { dst := some 10, op := Op.load 65 (Operand.tmp 3), type := 65, pos := "l3_sums.go:219", after := #[{ on := 3, ground := Ground.guard }], guard := some (3, true) }) (v := ?_) rfl (by kernel_rfl) (by kernel_rfl) (by kernel_rfl) (fun _ _ _ h => h) (Or.inl ⟨by rfl, ?_⟩) (by assumption) ?_
        rotate_left
        · (intro w hSw; (try dsimp only at hSw); go_simp <;> with_reducible rfl)
        (try simp only [Act.put, List.setIfInBounds_toArray, List.set_cons_zero, List.set_cons_succ])
        refine wpAnyH_ready (rs := [5]) (by kernel_rfl) (by simp) ?_
        refine AllReadyH.cons (o := { dst := some 11, op := Op.call { callee := Callee.value (Operand.func 95), args := #[Operand.tmp 10], argTypes := #[65] }, type := 4, pos := "l3_sums.go:219", after := #[{ on := 4, ground := Ground.data }, { on := 3, ground := Ground.chain }, { on := 3, ground := Ground.guard }], guard := some (3, true) }) rfl (fun K hK => ?_) AllReadyH.nil
        go_simp
        go_wp2_with (go_at_call 95; refine (HI'.out _).mono ?_; rintro e w4 ⟨rfl, hB⟩; have hb := HC3.out.trans (hB.mono HC3.out.size); have z0 := keep1 hb a0; have z1 := keep1 hb a1; have z2 := keep1 hb b0; have z3 := keep1 hb b1; have HC4 := Lib.hid hb; clear hB hb)
        refine hK.out _ _ ?_ (fun hHeld => ?_)
        · exact ⟨z0, z1, z2, z3⟩
        clear hK K
        (try simp only [Act.put, List.setIfInBounds_toArray, List.set_cons_zero, List.set_cons_succ])
        refine wpAnyH_take (i := 6) (oi := { dst := some 12, op := Op.unOp UnOp.not 4 (Operand.tmp 11), type := 4, pos := "l3_sums.go:219", after := #[{ on := 5, ground := Ground.data }, { on := 3, ground := Ground.guard }], guard := some (3, true) }) (v := ?_) rfl (by kernel_rfl) (by kernel_rfl) (by kernel_rfl) (fun _ _ _ h => h) (Or.inl ⟨by rfl, ?_⟩) (by assumption) ?_
        rotate_left
        · (intro w hSw; (try dsimp only at hSw); go_simp <;> with_reducible rfl)
        (try simp only [Act.put, List.setIfInBounds_toArray, List.set_cons_zero, List.set_cons_succ])
        refine wpAnyH_take (i := 7) (oi := { dst := some 13, op := Op.pick (Operand.tmp 9) (Operand.tmp 12) (Operand.const (Value.bool false)), type := 4, pos := "l3_sums.go:219", after := #[{ on := 3, ground := Ground.data }, { on := 6, ground := Ground.data }], guard := none }) (v := ?_) rfl (by kernel_rfl) (by kernel_rfl) (by kernel_rfl) (fun _ _ _ h => h) (Or.inl ⟨by rfl, ?_⟩) (by assumption) ?_
        rotate_left
        · (intro w hSw; (try dsimp only at hSw); go_simp <;> with_reducible rfl)
        (try simp only [Act.put, List.setIfInBounds_toArray, List.set_cons_zero, List.set_cons_succ])
        refine wpAnyH_take (i := 8) (oi := { dst := some 14, op := Op.move (Operand.tmp 13), type := 4, pos := "l3_sums.go:219", after := #[{ on := 7, ground := Ground.data }, { on := 5, ground := Ground.chain }], guard := none }) (v := ?_) rfl (by kernel_rfl) (by kernel_rfl) (by kernel_rfl) (fun _ _ _ h => h) (Or.inl ⟨by rfl, ?_⟩) (by assumption) ?_
        rotate_left
        · (intro w hSw; (try dsimp only at hSw); go_simp <;> with_reducible rfl)
        (try simp only [Act.put, List.setIfInBounds_toArray, List.set_cons_zero, List.set_cons_succ])
        refine wpAnyH_take (i := 9) (oi := { dst := some 15, op := Op.load 65 (Operand.tmp 2), type := 65, pos := "l3_sums.go:219", after := #[{ on := 8, ground := Ground.guard }], guard := some (8, true) }) (v := ?_) rfl (by kernel_rfl) (by kernel_rfl) (by kernel_rfl) (fun _ _ _ h => h) (Or.inl ⟨by rfl, ?_⟩) (by assumption) ?_
        rotate_left
        · (intro w hSw; (try dsimp only at hSw); go_simp <;> with_reducible rfl)
        (try simp only [Act.put, List.setIfInBounds_toArray, List.set_cons_zero, List.set_cons_succ])
        refine wpAnyH_take (i := 11) (oi := { dst := some 17, op := Op.load 65 (Operand.tmp 3), type := 65, pos := "l3_sums.go:219", after := #[{ on := 8, ground := Ground.guard }], guard := some (8, true) }) (v := ?_) rfl (by kernel_rfl) (by kernel_rfl) (by kernel_rfl) (fun _ _ _ h => h) (Or.inl ⟨by rfl, ?_⟩) (by assumption) ?_
        rotate_left
        · (intro w hSw; (try dsimp only at hSw); go_simp <;> with_reducible rfl)
        (try simp only [Act.put, List.setIfInBounds_toArray, List.set_cons_zero, List.set_cons_succ])
        refine wpAnyH_ready (rs := [10]) (by kernel_rfl) (by simp) ?_
        refine AllReadyH.cons (o := { dst := some 16, op := Op.call { callee := Callee.value (Operand.func 96), args := #[Operand.tmp 15], argTypes := #[65] }, type := 3, pos := "l3_sums.go:219", after := #[{ on := 9, ground := Ground.data }, { on := 8, ground := Ground.chain }, { on := 8, ground := Ground.guard }], guard := some (8, true) }) rfl (fun K hK => ?_) AllReadyH.nil
        go_simp
        go_wp2_with (go_at_call 96; refine (HL.out _ HC4.out).mono ?_; rintro e w5 ⟨rfl, hB⟩; have hb := HC4.out.trans (hB.mono HC4.out.size); have u0 := keep1 hb a0; have u1 := keep1 hb a1; have u2 := keep1 hb b0; have u3 := keep1 hb b1; have HC5 := Lib.hid hb; clear hB hb)
        refine hK.out _ _ ?_ (fun hHeld => ?_)
        · exact ⟨u0, u1, u2, u3⟩
        clear hK K
        (try simp only [Act.put, List.setIfInBounds_toArray, List.set_cons_zero, List.set_cons_succ])
        refine wpAnyH_ready (rs := [12]) (by kernel_rfl) (by simp) ?_
        refine AllReadyH.cons (o := { dst := some 18, op := Op.call { callee := Callee.value (Operand.func 96), args := #[Operand.tmp 17], argTypes := #[65] }, type := 3, pos := "l3_sums.go:219", after := #[{ on := 11, ground := Ground.data }, { on := 10, ground := Ground.chain }, { on := 8, ground := Ground.guard }], guard := some (8, true) }) rfl (fun K hK => ?_) AllReadyH.nil
        go_simp
        go_wp2_with (go_at_call 96; refine (HL'.out _ HC5.out).mono ?_; rintro e w6 ⟨rfl, hB⟩; have hb := HC5.out.trans (hB.mono HC5.out.size); have v0 := keep1 hb a0; have v1 := keep1 hb a1; have v2 := keep1 hb b0; have v3 := keep1 hb b1; have HC6 := Lib.hid hb; clear hB hb)
        refine hK.out _ _ ?_ (fun hHeld => ?_)
        · exact ⟨v0, v1, v2, v3⟩
        clear hK K
        (try simp only [Act.put, List.setIfInBounds_toArray, List.set_cons_zero, List.set_cons_succ])
        refine wpAnyH_take (i := 13) (oi := { dst := some 19, op := Op.binOp BinOp.neq 3 (Operand.tmp 16) (Operand.tmp 18) 3, type := 4, pos := "l3_sums.go:219", after := #[{ on := 10, ground := Ground.data }, { on := 12, ground := Ground.data }, { on := 8, ground := Ground.guard }], guard := some (8, true) }) (v := ?_) rfl (by kernel_rfl) (by kernel_rfl) (by kernel_rfl) (fun _ _ _ h => h) (Or.inl ⟨by rfl, ?_⟩) (by assumption) ?_
        rotate_left
        · (intro w hSw; (try dsimp only at hSw); go_simp <;> with_reducible rfl)
        (try simp only [Act.put, List.setIfInBounds_toArray, List.set_cons_zero, List.set_cons_succ])
        refine wpAnyH_take (i := 14) (oi := { dst := some 20, op := Op.pick (Operand.tmp 14) (Operand.tmp 19) (Operand.const (Value.bool false)), type := 4, pos := "l3_sums.go:219", after := #[{ on := 8, ground := Ground.data }, { on := 13, ground := Ground.data }], guard := none }) (v := ?_) rfl (by kernel_rfl) (by kernel_rfl) (by kernel_rfl) (fun _ _ _ h => h) (Or.inl ⟨by rfl, ?_⟩) (by assumption) ?_
        rotate_left
        · (intro w hSw; (try dsimp only at hSw); go_simp <;> with_reducible rfl)
        (try simp only [Act.put, List.setIfInBounds_toArray, List.set_cons_zero, List.set_cons_succ])
        refine wpAnyH_done (by kernel_rfl) ?_ _
        all_goals
          obtain ⟨r0, r1, fr0, fr1⟩ := two_cells ((HC6.out.block _ hl2).trans HR.out)
          go_wp2_with fail
          refine bodyPost_ret (v := .tuple #[.agg #[.nilFunc, .slice none 0 0], .bool false]) (by simp [results, Try.results59, go_sem, r0, r1]) rfl ?_
          exact ⟨((below_step HB0.out HC6.out).setCell (p := ⟨w.heap.size + 1 + 1, 0, none⟩) (by simp; omega) _).setCell (p := ⟨w.heap.size + 1 + 1, 1, none⟩) (by simp; omega) _, .inl ⟨HNA.out, rfl⟩⟩
end Go.Proofs.Ytipodlckehodnaa
end
section
/- SumAdd by the program. -/
namespace Go.Proofs.Ytipodlckehodnaa
open Go.RowKit

set_option maxRecDepth 100000 in
set_option maxHeartbeats 2000000 in
theorem iSumAdd_post (xs ys : List (Int × ByteArray)) (n n' : Nat) (hnx : n = xs.length) (hny : n' = ys.length) (g cap g' cap' : Nat) (w : World) (hn : n ≤ 1048576) (hn' : n' ≤ 1048576) (hz : ∀ j (h : j < xs.length), (xs[j]).2.size ≤ 1048576) (hz' : ∀ j (h : j < ys.length), (ys[j]).2.size ≤ 1048576) (hl : TermL w g xs) (hl' : TermL w g' ys) :
    Calls Try.prog 17 #[.slice (some ⟨g, 0, none⟩) n cap, .slice (some ⟨g', 0, none⟩) n' cap'] w (TermsPost (addOf xs ys) w) := by
  have HR := Lib.hid (readSums_any xs ys n n' hnx hny g cap g' cap' w hn hn' hz hz' hl hl')
  clear hnx hny hz hz' hl hl'
  go_enter Try.func17, Try.ntmps17
  go_wp2_with fail
  refine HR.out.mono ?_
  rintro e w1 ⟨hB1, ⟨hno, rfl⟩ | ⟨ps, qs, gp, c, gq, c', hyes, hyes', rfl, hrd, hrd'⟩⟩
  · have HN : Hid (addOf xs ys = none) := Lib.hid (by rcases hno with h | h; exact addOf_no1 h; exact addOf_no2 h)
    have HB1 := Lib.hid hB1
    clear hno hB1
    go_wp2_with fail
    go_ret2
    exact ⟨(HB1.out.alloc HB1.out.size _).alloc (by have := HB1.out.size; simp; omega) _, .inl ⟨HN.out, _, _, rfl⟩⟩
  · have HB1 := Lib.hid hB1
    have HRD := Lib.hid hrd
    have HRD' := Lib.hid hrd'
    obtain ⟨h60, htr, _⟩ := sum_trees hyes
    obtain ⟨h60', htr', _⟩ := sum_trees hyes'
    have HIN := Lib.hid (addOf_in hyes hyes')
    have HOK : Hid (∀ p ∈ canon (ps ++ qs), p.2.wf ∧ p.2.leaves ≤ 1000 ∧ p.2.nodes ≤ 1000) := Lib.hid (canon_tree (fun p hp => by
      rcases List.mem_append.1 hp with h | h
      · have h2 := htr p h; exact ⟨h2.1, by omega, by omega⟩
      · have h2 := htr' p h; exact ⟨h2.1, by omega, by omega⟩))
    have HPS : Hid (∀ p ∈ ps ++ qs, p.2.wf ∧ p.2.leaves ≤ 1000 ∧ p.2.nodes ≤ 1000 ∧ -1000000 ≤ p.1 ∧ p.1 ≤ 1000000) := Lib.hid (fun p hp => by
      rcases List.mem_append.1 hp with h | h
      · have h2 := htr p h; exact ⟨h2.1, by omega, by omega, by omega, by omega⟩
      · have h2 := htr' p h; exact ⟨h2.1, by omega, by omega, by omega, by omega⟩)
    have HCL : Hid ((canon (ps ++ qs)).length ≤ 1000000) := Lib.hid (by have h1 := canon_length (ps ++ qs); rw [List.length_append] at h1; omega)
    obtain ⟨n1, hn1⟩ : ∃ n1, n1 = ps.length := ⟨_, rfl⟩
    obtain ⟨n2, hn2⟩ : ∃ n2, n2 = qs.length := ⟨_, rfl⟩
    have HN1 := Lib.hid hn1
    have HN2 := Lib.hid hn2
    rw [← hn1, ← hn2]
    rw [← hn1] at h60
    rw [← hn2] at h60'
    obtain ⟨w2, hw2⟩ : ∃ w2, w2 = (w1.alloc (.cells #[.func (.func 57) #[] #[], .slice (some ⟨gp, 0, none⟩) n1 c] 65 (0, 0))).alloc (.cells #[.func (.func 57) #[] #[], .slice (some ⟨gq, 0, none⟩) n2 c'] 65 (0, 0)) := ⟨_, rfl⟩
    have hB2 : Below w1.heap.size w1 w2 := by rw [hw2]; exact ((Below.refl _ _).alloc (Nat.le_refl _) _).alloc (by simp) _
    have hS : w2.heap[w1.heap.size]? = some (.cells #[.func (.func 57) #[] #[], .slice (some ⟨gp, 0, none⟩) n1 c] 65 (0, 0)) := by rw [hw2, Below.heap_alloc _ _ _ (by simp)]; exact heap_alloc_new w1 _
    have hU : w2.heap[w1.heap.size + 1]? = some (.cells #[.func (.func 57) #[] #[], .slice (some ⟨gq, 0, none⟩) n2 c'] 65 (0, 0)) := by
      rw [hw2]
      have := heap_alloc_new (w1.alloc (.cells #[.func (.func 57) #[] #[], .slice (some ⟨gp, 0, none⟩) n1 c] 65 (0, 0))) (.cells #[.func (.func 57) #[] #[], .slice (some ⟨gq, 0, none⟩) n2 c'] 65 (0, 0))
      simpa using this
    have HW2 := Lib.hid hw2
    have HB2 := Lib.hid (below_step HB1.out hB2)
    have HBX := Lib.hid hB2
    obtain ⟨s0, s1, _, _⟩ := two_cells hS
    obtain ⟨u0, u1, _, _⟩ := two_cells hU
    have HAS := Lib.hid (fun (W : World) (hb : Below w1.heap.size w1 W) => addSums_any ps qs n1 n2 HN1.out HN2.out gp c gq c' W (by omega) (by omega) HPS.out (HRD.out.below (by decide) hb) (HRD'.out.below (by decide) hb))
    clear hn1 hn2 hw2 hB2 hS hU hB1 hrd hrd' hyes hyes' htr htr'
    go_wp2_with fail
    rw [← HW2.out]
    refine (HAS.out _ HBX.out).mono ?_
    rintro e w3 ⟨hB3, ⟨hal, rfl⟩ | ⟨hal, g6, c6, rfl, hr6⟩⟩
    · have HN : Hid (addOf xs ys = none) := Lib.hid (by rw [HIN.out, if_neg (by rw [hal]; decide)])
      have HB3 := Lib.hid (below_step HB2.out hB3)
      clear hal hB3
      go_wp2_with fail
      go_ret2
      exact ⟨HB3.out.alloc HB3.out.size _, .inl ⟨HN.out, _, _, rfl⟩⟩
    · have HV : Hid (addOf xs ys = outOf (canon (ps ++ qs))) := Lib.hid (by rw [HIN.out, if_pos hal])
      have HB3 := Lib.hid (below_step HB2.out hB3)
      obtain ⟨w4, hw4⟩ : ∃ w4, w4 = w3.alloc (.cells #[.func (.func 57) #[] #[], .slice (some ⟨g6, 0, none⟩) (canon (ps ++ qs)).length c6] 65 (0, 0)) := ⟨_, rfl⟩
      have HW4 := Lib.hid hw4
      have hb4 : Below w3.heap.size w3 w4 := by rw [hw4]; exact (Below.refl _ _).alloc (Nat.le_refl _) _
      have HB4 := Lib.hid (below_step HB3.out hb4)
      have HBT := Lib.hid (boundedTerms_any (canon (ps ++ qs)) _ rfl g6 c6 w4 HCL.out HOK.out (hr6.below (by decide) hb4))
      clear hal hB3 hr6 hw4 hb4
      go_wp2_with fail
      rw [← HW4.out]
      refine HBT.out.mono ?_
      rintro e w7 ⟨hB7, hres⟩
      have HB7 := Lib.hid (below_step HB4.out hB7)
      rcases hres with ⟨hno, a3, c3, rfl⟩ | ⟨rs, g3, c3, cur, hyes, rfl, hg3, hcur, hcs, hl3⟩
      · have HQ : Hid (addOf xs ys = none) := Lib.hid (by rw [HV.out, hno])
        clear hno
        go_wp2_with fail
        go_ret2
        exact ⟨HB7.out, .inl ⟨HQ.out, _, _, rfl⟩⟩
      · have HQ : Hid (addOf xs ys = some rs) := Lib.hid (by rw [HV.out, hyes])
        have HRES : Hid (w4.heap.size ≤ g3 ∧ w7.heap[g3]? = some (.cells cur 32 (0, 0)) ∧ rs.length * 2 ≤ cur.size ∧ TermL w7 g3 (txtTm rs)) := Lib.hid ⟨hg3, hcur, hcs, hl3⟩
        clear hyes hcur hcs hl3
        go_wp2_with fail
        go_ret2
        obtain ⟨h1, h2, h3, h4⟩ := HRES.out
        exact ⟨HB7.out, .inr ⟨rs, g3, c3, cur, HQ.out, rfl, Nat.le_trans HB4.out.size h1, h2, h3, h4⟩⟩

theorem iSumAdd_any (xs ys : List (Int × ByteArray)) (n n' : Nat) (hnx : n = xs.length) (hny : n' = ys.length) (g cap g' cap' : Nat) (w : World) (hn : n ≤ 1048576) (hn' : n' ≤ 1048576) (hz : ∀ j (h : j < xs.length), (xs[j]).2.size ≤ 1048576) (hz' : ∀ j (h : j < ys.length), (ys[j]).2.size ≤ 1048576) (hl : TermL w g xs) (hl' : TermL w g' ys) :
    Calls Try.prog 17 #[.slice (some ⟨g, 0, none⟩) n cap, .slice (some ⟨g', 0, none⟩) n' cap'] w (TermsAny (addOf xs ys) w) :=
  (iSumAdd_post xs ys n n' hnx hny g cap g' cap' w hn hn' hz hz' hl hl').mono fun _ _ h => h.any
end Go.Proofs.Ytipodlckehodnaa
end
