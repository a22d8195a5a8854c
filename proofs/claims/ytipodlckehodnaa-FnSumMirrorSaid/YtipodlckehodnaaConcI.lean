/- The program lays two rows of parts behind each other: slices.Grow at nil, slices.Concat of two. -/
import Derived.Test.YtipodlckehodnaaComb
import Derived.Lib.AppendZerosOnto
import Derived.Lib.Walk
namespace Go.Proofs.Ytipodlckehodnaa
open Go.RowKit

/-- A new row of no elements, with room. -/
def GrowPost (n : Nat) (w : World) (e : Ending) (w' : World) : Prop :=
  Below w.heap.size w w' ∧ ∃ va c, e = .returned (.slice va 0 c) ∧ w'.ownsRow w.heap.size 130 4 (.slice va 0 c) 0 [] ∧ (n = 0 → va = none ∧ c = 0) ∧ (0 < n → va ≠ none)

set_option maxRecDepth 100000 in
set_option maxHeartbeats 2000000 in
theorem growPt_any (n : Nat) (w : World) (hn2 : n ≤ 1000000) :
    Calls Try.prog 142 #[.slice none 0 0, .int .i64 n] w (GrowPost n w) := by
  obtain ⟨i0, hi0, hzz, hzs, hzb⟩ := info_parts infoPt
  have h1 : decide ((n : Int) < 0) = false := decide_eq_false (by omega)
  have h2 : ¬ ((n : Int) < 0) := by omega
  have h3 : IntKind.i64.wrap (n : Int) = (n : Int) := by rw [IntKind.wrap_i64]; omega
  have h4 : wrap64 (n : Int) = (n : Int) := by unfold wrap64; omega
  rcases Nat.eq_zero_or_pos n with h0 | h0
  · subst h0
    clear h1 h2 h3 h4
    go_enter Try.func142, Try.ntmps142
    go_wp2_with fail
    go_ret
    exact ⟨Below.refl _ _, none, 0, rfl, World.ownsRow_nil _ _ _ _, fun _ => ⟨rfl, rfl⟩, fun h => by omega⟩
  · have h5 : (0 : Int) < (n : Int) := by omega
    have hold : (Builtin.firstCells i0.size 0 (.slice none 0 0)).run Try.prog w.drew = .ok ([] : List Value).toArray w.drew := run_firstCells_none w.drew i0.size 0 0 0
    obtain ⟨G, hG⟩ : ∃ G, G = grownCap w (0 + n) 0 130 := ⟨_, rfl⟩
    have hrz : ∀ ty, (Builtin.append_ #[63, 3] ty #[.slice none 0 0, .int .i64 (n : Int)]).run Try.prog w = .ok (.slice (some ⟨w.heap.size, 0, none⟩) n G) (w.drew.alloc (.cells (([] : List Value).toArray ++ Builtin.zeroCells (Value.agg #[.int .i64 0, .nilIface, .slice none 0 0, .string ⟨#[]⟩]).cells n ++ Builtin.zeroCells (Value.agg #[.int .i64 0, .nilIface, .slice none 0 0, .string ⟨#[]⟩]).cells (G - n)) 130)) := fun ty => by
      have h := Lib.run_append_grow_zeros w 63 3 ty 130 i0 _ .i64 .i64 Try.underlying63 Try.underlying3 hi0 hzz none 0 0 [] hold n h0 (by omega) (by omega) (by omega) (by rw [hzb]; omega) (growslice_fits (by omega) (by rw [hzb]; omega))
      rw [← hG, Nat.zero_add] at h
      exact h
    have hGn : n ≤ G := by have := grownCap_ge w (0 + n) 0 130; omega
    have hGm : G ≤ maxLen := by rw [hG]; exact grownCap_le_maxLen w _ _ _ (by unfold maxLen; omega)
    have hG63 : G ≤ 9223372036854775807 := by unfold maxLen at hGm; omega
    have HOWN := Lib.hid (World.ownsRow_made (base := w.heap.size) (size := 4) (e := 130) w (Builtin.zeroCells #[.int .i64 0, .nilIface, .slice none 0 0, .string ⟨#[]⟩] n ++ Builtin.zeroCells #[.int .i64 0, .nilIface, .slice none 0 0, .string ⟨#[]⟩] (G - n)) G (Nat.le_refl _) hGm (by
      simp only [Array.size_append, size_zeroCells]
      simp; omega))
    clear hold hG hGm
    go_enter Try.func142, Try.ntmps142
    go_wp2_with (at_builtin; refine Lib.wpList_append_run _ rfl _ _ _ _ rfl _ _ rfl rfl _ _ (hrz _) ?_)
    all_goals
      go_ret
      exact ⟨((Below.refl _ _).alloc (Nat.le_refl _) _).drew, _, _, rfl, HOWN.out, fun h => by omega, fun _ => by simp⟩

/-- What stands in the cells of a row that is read. -/
structure NewsOf (P : Nat → Prop) (ps : List Tm) (n g : Nat) (w : World) (news : List Value) : Prop where
  len : news.length = n * 4
  cell : ∀ W, Below w.heap.size w W → ∀ j u, news[j]? = some u → W.cell? ((⟨g, 0, none⟩ : Addr).add j) = some u
  one : ∀ u ∈ news, u.oneCell' = true
  reps : ∀ q (hq : q < ps.length), ∃ cs, (∀ j, j < 4 → news[q * 4 + j]? = cs[j]?) ∧ tmI.R w (fun b => b < w.heap.size ∧ P b) ps[q] cs

theorem newsOf (P : Nat → Prop) (ps : List Tm) (n g : Nat) (hn : n = ps.length) (w : World) (hr : Rd tmI w P (some ⟨g, 0, none⟩) ps) : NewsOf P ps n g w (rowCells w g 0 (n * 4)) := by
  have hrW := hr.weak (P' := fun b => b < w.heap.size ∧ P b) (by decide) (fun _ h hlt => ⟨hlt, h⟩)
  obtain ⟨c1, c2, c3⟩ := hrW.cells (by decide) 0 n (by omega)
  rw [Nat.zero_mul] at c1 c2 c3
  refine ⟨rowCells_length .., fun W hb j u hu => ?_, c2, fun q hq => ?_⟩
  · have e : (⟨g, 0, none⟩ : Addr).add j = ⟨g, j, none⟩ := by unfold Addr.add; split <;> simp_all
    have := c1 j u hu
    rw [Nat.zero_add] at this
    rw [e]; exact keep1 hb this
  · obtain ⟨cs, e1, e2⟩ := c3 q (by omega)
    refine ⟨cs, e1, ?_⟩
    simp only [Nat.zero_add] at e2
    exact e2

theorem NewsOf.both {P : Nat → Prop} {ps qs : List Tm} {n n' g g' : Nat} {w : World} {xs ys : List Value} (h : NewsOf P ps n g w xs) (h' : NewsOf P qs n' g' w ys) (hn : n = ps.length) :
    ∀ q (hq : q < (ps ++ qs).length), ∃ cs, (∀ j, j < 4 → (xs ++ ys)[q * 4 + j]? = cs[j]?) ∧ tmI.R w (fun b => b < w.heap.size ∧ P b) (ps ++ qs)[q] cs := fun q hq => by
  by_cases hlt : q < ps.length
  · obtain ⟨cs, e1, e2⟩ := h.reps q hlt
    refine ⟨cs, fun j hj => ?_, by rw [List.getElem_append_left hlt]; exact e2⟩
    rw [List.getElem?_append_left (by rw [h.len]; omega)]
    exact e1 j hj
  · have hq2 : q - ps.length < qs.length := by rw [List.length_append] at hq; omega
    obtain ⟨cs, e1, e2⟩ := h'.reps (q - ps.length) hq2
    refine ⟨cs, fun j hj => ?_, by rw [List.getElem_append_right (by omega)]; exact e2⟩
    rw [List.getElem?_append_right (by rw [h.len]; omega), ← e1 j hj, h.len]
    congr 1
    omega

theorem own_shape {w : World} {base : Nat} {e : TypeId} {size : Nat} {v : Value} {n : Nat} {xs : List Value} (hs : 0 < size) (h : w.ownsRow base e size v n xs) : ∃ a c, v = .slice a n c ∧ (a = none → v = .slice none 0 0) := by
  rcases h.2 with ⟨rfl, hx⟩ | ⟨g, cap, cur, rfl, _⟩
  · have h1 := h.1
    rw [hx] at h1
    have h2 : n = 0 := by
      rcases Nat.eq_zero_or_pos n with h | h
      · exact h
      · have := Nat.mul_pos h hs
        simp at h1; omega
    subst h2
    exact ⟨none, 0, rfl, fun _ => rfl⟩
  · exact ⟨some ⟨g, 0, none⟩, cap, rfl, fun e => by simp at e⟩

/-- What 'Concat' of two rows answers. -/
def ConcPost (P : Nat → Prop) (ps qs : List Tm) (n : Nat) (w : World) (e : Ending) (w' : World) : Prop :=
  Below w.heap.size w w' ∧ ∃ va c, e = .returned (.slice va n c) ∧ ((n = 0 ∧ va = none ∧ c = 0) ∨ ∃ g2, va = some ⟨g2, 0, none⟩ ∧ Rd tmI w' (fun b => P b ∨ w.heap.size ≤ b) va (ps ++ qs))

set_option maxRecDepth 100000 in
set_option maxHeartbeats 2000000 in
theorem concat_any (P : Nat → Prop) (ps qs : List Tm) (n n' : Nat) (hn : n = ps.length) (hn' : n' = qs.length) (a g c g' c' : Nat) (w : World) (hn2 : n ≤ 100000) (hn2' : n' ≤ 100000) (h0 : w.cell? ⟨a, 0, none⟩ = some (.slice (some ⟨g, 0, none⟩) n c)) (h1 : w.cell? ⟨a, 1, none⟩ = some (.slice (some ⟨g', 0, none⟩) n' c')) (hr : Rd tmI w P (some ⟨g, 0, none⟩) ps) (hr' : Rd tmI w P (some ⟨g', 0, none⟩) qs) :
    Calls Try.prog 123 #[.slice (some ⟨a, 0, none⟩) 2 2] w (ConcPost P ps qs (n + n') w) := by
  obtain ⟨i0, hi0, hzz, hzs, hzb⟩ := info_parts infoPt
  have HX := Lib.hid (newsOf P ps n g hn w hr)
  have HY := Lib.hid (newsOf P qs n' g' hn' w hr')
  obtain ⟨xs, hxs⟩ : ∃ xs, xs = rowCells w g 0 (n * 4) := ⟨_, rfl⟩
  obtain ⟨ys, hys⟩ : ∃ ys, ys = rowCells w g' 0 (n' * 4) := ⟨_, rfl⟩
  rw [← hxs] at HX
  rw [← hys] at HY
  have HNN := Lib.hid hn
  have HNN' := Lib.hid hn'
  obtain ⟨N, hN⟩ : ∃ N, N = n + n' := ⟨_, rfl⟩
  have HN := Lib.hid hN
  have hw1 : IntKind.i64.wrap (n : Int) = (n : Int) := by rw [IntKind.wrap_i64]; omega
  have hw2 : IntKind.i64.wrap ((n : Int) + (n' : Int)) = (N : Int) := by rw [IntKind.wrap_i64]; omega
  have hd1 : ¬ ((n : Int) < 0) := by omega
  have hd2 : ¬ ((N : Int) < 0) := by omega
  have hNl : N ≤ 200000 := by omega
  have HG := Lib.hid (fun W => growPt_any N W (by omega))
  rw [← hN]
  clear hr hr' hxs hys hn hn' hN
  go_enter Try.func123, Try.ntmps123
  go_wp2_with fail
  go_loopw [3, 11] (fun sv iv wr => w = wr ∧ ((iv = .int .i64 0 ∧ sv = .int .i64 0) ∨ (iv = .int .i64 1 ∧ sv = .int .i64 n) ∨ (iv = .int .i64 2 ∧ sv = .int .i64 N))) (fun _ iv _ => 2 - (intOf iv).toNat)
  case atStart => exact ⟨rfl, .inl ⟨rfl, rfl⟩⟩
  case round =>
    obtain ⟨rfl, ⟨rfl, rfl⟩ | ⟨rfl, rfl⟩ | ⟨rfl, rfl⟩⟩ := hrel
    · go_wp2_with fail
      go_roundw
      case rel => exact ⟨by first | rfl | trivial, .inr (.inl ⟨by rfl, by first | rfl | simp [hw1]⟩)⟩
      case measure => simp [intOf]
    · go_wp2_with fail
      go_roundw
      case rel => exact ⟨by first | rfl | trivial, .inr (.inr ⟨by rfl, by first | rfl | simp [hw2]⟩)⟩
      case measure => simp [intOf]
    · go_wp2_with fail
      refine (HG.out _).mono ?_
      rintro e w1 ⟨hB1, va, vc, rfl, hown, hz1, hz2⟩
      have HB1 := Lib.hid hB1
      have HOWN := Lib.hid hown
      have HZ1 := Lib.hid hz1
      have HZ2 := Lib.hid hz2
      have hsz1 := hB1.size
      clear hB1 hown hz1 hz2
      go_wp2_with fail
      go_loopw [6, 27] (fun ov iv wr => ∃ (va : Option Addr) (k vc : Nat) (vs : List Value), ov = .slice va k vc ∧ wr.ownsRow w.heap.size 130 4 (.slice va k vc) k vs ∧ Below w.heap.size w wr ∧ (N = 0 → va = none ∧ vc = 0) ∧ (0 < N → va ≠ none) ∧ ((iv = .int .i64 0 ∧ k = 0 ∧ vs = []) ∨ (iv = .int .i64 1 ∧ k = n ∧ vs = xs) ∨ (iv = .int .i64 2 ∧ k = N ∧ vs = xs ++ ys))) (fun _ iv _ => 2 - (intOf iv).toNat)
      case atStart => exact ⟨va, 0, vc, [], rfl, HOWN.out, HB1.out, HZ1.out, HZ2.out, .inl ⟨rfl, rfl, rfl⟩⟩
      case round =>
        obtain ⟨va, k, vc, vs, rfl, hown, hB, hz1, hz2, hst⟩ := hrel
        have h0' := keep1 hB h0
        have h1' := keep1 hB h1
        have HBr := Lib.hid hB
        have hszr := hB.size
        have HOWN := Lib.hid hown
        have HZ1 := Lib.hid hz1
        have HZ2 := Lib.hid hz2
        clear hown hB hz1 hz2
        rcases hst with ⟨rfl, rfl, rfl⟩ | ⟨rfl, hk, hv⟩ | ⟨rfl, hk, hv⟩
        · go_wp2_with (at_builtin; refine wpList_append_own_at _ rfl _ _ 63 rfl w.heap.size 130 i0 (.agg #[.int .i64 0, .nilIface, .slice none 0 0, .string ⟨#[]⟩]) 4 64 Try.underlying63 hi0 hzz hzs hzb rfl (by decide) (.slice va 0 vc) 0 [] rfl HOWN.out ⟨g, 0, none⟩ n c xs rfl HX.out.len (HX.out.cell _ HBr.out) HX.out.one (by unfold maxLen; omega) (by omega) (by omega) ?_; intro v1 w2 hown2 hg2 hnil2 hat2)
          rw [Nat.zero_add, List.nil_append] at hown2
          obtain ⟨va', vc', rfl, hsh⟩ := own_shape (by decide) hown2
          have HO2 := Lib.hid hown2
          have HB2 := Lib.hid (HBr.out.grown hg2 (by omega) (fun q e => (HOWN.out.lt q e).1))
          have HZ1' : Hid (N = 0 → va' = none ∧ vc' = 0) := Lib.hid (fun h => by
            obtain ⟨e1, e2⟩ := HZ1.out h
            have hnn := HN.out
            have h3 := hnil2.2 ⟨by rw [e1, e2], by omega⟩
            simp only [Value.slice.injEq] at h3
            exact ⟨h3.1, h3.2.2⟩)
          have HZ2' : Hid (0 < N → va' ≠ none) := Lib.hid (fun h e => by
            have h3 := (hnil2.1 (hsh e)).1
            simp only [Value.slice.injEq] at h3
            exact HZ2.out h h3.1)
          clear hown2 hg2 hnil2 hat2 hsh
          go_wp2_with fail
          go_roundw
          case rel => exact ⟨va', n, vc', xs, rfl, HO2.out, HB2.out, HZ1'.out, HZ2'.out, .inr (.inl ⟨by rfl, rfl, rfl⟩)⟩
          case measure => simp [intOf]
        · replace hk := hk.symm
          replace hv := hv.symm
          subst hk
          subst hv
          go_wp2_with (at_builtin; refine wpList_append_own_at _ rfl _ _ 63 rfl w.heap.size 130 i0 (.agg #[.int .i64 0, .nilIface, .slice none 0 0, .string ⟨#[]⟩]) 4 64 Try.underlying63 hi0 hzz hzs hzb rfl (by decide) (.slice va n vc) n xs rfl HOWN.out ⟨g', 0, none⟩ n' c' ys rfl HY.out.len (HY.out.cell _ HBr.out) HY.out.one (by unfold maxLen; omega) (by omega) (by omega) ?_; intro v1 w2 hown2 hg2 hnil2 hat2)
          rw [← HN.out] at hown2
          obtain ⟨va', vc', rfl, hsh⟩ := own_shape (by decide) hown2
          have HO2 := Lib.hid hown2
          have HB2 := Lib.hid (HBr.out.grown hg2 (by omega) (fun q e => (HOWN.out.lt q e).1))
          have HZ1' : Hid (N = 0 → va' = none ∧ vc' = 0) := Lib.hid (fun h => by
            obtain ⟨e1, e2⟩ := HZ1.out h
            have hnn := HN.out
            have h3 := hnil2.2 ⟨by rw [e1, e2, show n = 0 by omega], by omega⟩
            simp only [Value.slice.injEq] at h3
            exact ⟨h3.1, h3.2.2⟩)
          have HZ2' : Hid (0 < N → va' ≠ none) := Lib.hid (fun h e => by
            have h3 := (hnil2.1 (hsh e)).1
            simp only [Value.slice.injEq] at h3
            exact HZ2.out h h3.1)
          clear hown2 hg2 hnil2 hat2 hsh
          go_wp2_with fail
          go_roundw
          case rel => exact ⟨va', N, vc', xs ++ ys, rfl, HO2.out, HB2.out, HZ1'.out, HZ2'.out, .inr (.inr ⟨by rfl, rfl, rfl⟩)⟩
          case measure => simp [intOf]
        · replace hk := hk.symm
          replace hv := hv.symm
          subst hk
          subst hv
          have HB2 := HBr
          go_wp2_with fail
          go_ret
          refine ⟨HB2.out, va, vc, rfl, ?_⟩
          rcases Nat.eq_zero_or_pos N with hz | hz
          · obtain ⟨e1, e2⟩ := HZ1.out hz
            exact .inl ⟨hz, e1, e2⟩
          · obtain ⟨g2, rfl, _⟩ := owns_addr HOWN.out (HZ2.out hz)
            refine .inr ⟨g2, rfl, ?_⟩
            have hrow : Row (tmI.inn (fun b => P b ∨ w.heap.size ≤ b)) 130 w.heap.size (ps ++ qs) (.slice (some ⟨g2, 0, none⟩) N vc) (xs ++ ys) wr := Row.of_old HB2.out (by
              have h := HOWN.out
              rw [List.length_append, ← HNN.out, ← HNN'.out, ← HN.out]
              exact h) (Nat.le_refl _) (fun q hq => by
              obtain ⟨cs, e1, e2⟩ := HX.out.both HY.out HNN.out q hq
              exact ⟨cs, e1, tmI.keep (fun _ _ _ h => h) (fun b h _ => ⟨h.1, .inl h.2⟩) e2⟩)
            exact hrow.rd.inn (fun g e h => .inr (hrow.rd_from g e h))
end Go.Proofs.Ytipodlckehodnaa
