/- The model splits a node. -/
import Derived.Test.YtbbkaephlojalaaFaceS
import Derived.Test.YtbbkaephlojalaaKQuadT
namespace Go.Proofs.Ytbbkaephlojalaa
open Go.RowKit

/-- A row of trees, as a node's trees. -/
theorem RepS.of_row {W : World} {us : List T} {g n c : Nat} (hrd : Rd trS W (fun _ => True) (some ⟨g, 0, none⟩) us) (hn : n = us.length) (h6 : us.length ≤ 6) (h1 : 1 ≤ us.length) (hc : n ≤ c) (c0 : UInt8) : RepS W (fun b => b < W.heap.size) (.node c0 us) (.string ⟨#[c0]⟩) (.slice (some ⟨g, 0, none⟩) n c) := by
  subst hn
  have hall : ∀ k (hk : k < us.length), ∃ (lb : ByteArray) (sa : Option Addr) (sn sc : Nat), W.cell? ⟨g, k * 2, none⟩ = some (.string lb) ∧ W.cell? ⟨g, k * 2 + 1, none⟩ = some (.slice sa sn sc) ∧ us[k].wf ∧ RepS W (fun _ => True) us[k] (.string lb) (.slice sa sn sc) := fun k hk => by
    obtain ⟨g', lb, sa, sn, sc, e, _, c1, c2, hw, hr⟩ := trS.get hrd k hk
    cases e
    exact ⟨lb, sa, sn, sc, c1, c2, hw, hr⟩
  rw [RepS]
  refine ⟨rfl, g, c, rfl, ?_, ⟨h6, hc⟩, RepSL.of_get fun k hk => ?_⟩
  · obtain ⟨lb, sa, sn, sc, c1, _⟩ := hall 0 (by omega)
    exact World.block_lt_of_cell? W _ c1
  · obtain ⟨lb, sa, sn, sc, c1, c2, hw, hr⟩ := hall k hk
    rw [Nat.zero_add]
    exact ⟨_, _, c1, c2, hr.keep (fun _ _ _ h => h) (fun b _ h => h) hw⟩

theorem RepS.of_rowQ {W : World} {Q : Nat → Prop} {us : List T} {g n c : Nat} (hrd : Rd trS W Q (some ⟨g, 0, none⟩) us) (hn : n = us.length) (h6 : us.length ≤ 6) (h1 : 1 ≤ us.length) (hc : n ≤ c) (c0 : UInt8) : RepS W (fun b => b < W.heap.size ∧ Q b) (.node c0 us) (.string ⟨#[c0]⟩) (.slice (some ⟨g, 0, none⟩) n c) := by
  subst hn
  have hall : ∀ k (hk : k < us.length), Q g ∧ ∃ (lb : ByteArray) (sa : Option Addr) (sn sc : Nat), W.cell? ⟨g, k * 2, none⟩ = some (.string lb) ∧ W.cell? ⟨g, k * 2 + 1, none⟩ = some (.slice sa sn sc) ∧ us[k].wf ∧ RepS W Q us[k] (.string lb) (.slice sa sn sc) := fun k hk => by
    obtain ⟨g', lb, sa, sn, sc, e, hq, c1, c2, hw, hr⟩ := trS.get hrd k hk
    cases e
    exact ⟨hq, lb, sa, sn, sc, c1, c2, hw, hr⟩
  rw [RepS]
  refine ⟨rfl, g, c, rfl, ?_, ⟨h6, hc⟩, RepSL.of_get fun k hk => ?_⟩
  · obtain ⟨hq, lb, sa, sn, sc, c1, _⟩ := hall 0 (by omega)
    exact ⟨World.block_lt_of_cell? W _ c1, hq⟩
  · obtain ⟨_, lb, sa, sn, sc, c1, c2, hw, hr⟩ := hall k hk
    rw [Nat.zero_add]
    exact ⟨_, _, c1, c2, hr.keep (fun _ _ _ h => h) (fun b h h' => ⟨h', h⟩) hw⟩

theorem Rd.of_node {w : World} {P : Nat → Prop} {ks : List T} {g : Nat} (hP : P g) (hw : T.wfL ks) (h : RepSL w P ks g 0) : Rd trS w P (some ⟨g, 0, none⟩) ks := fun k hk => by
  obtain ⟨l, s, c1, c2, hr⟩ := h.get k hk
  obtain ⟨lb, sa, sn, sc, rfl, rfl⟩ := hr.shape'
  rw [Nat.zero_add] at c1 c2
  refine ⟨g, [.string lb, .slice sa sn sc], rfl, hP, fun j hj => ?_, lb, sa, sn, sc, rfl, wfL_get hw k hk, hr⟩
  match j, hj with
  | 0, _ => exact c1
  | 1, _ => exact c2

theorem CellsOf.below {α : Type} {E : Elt α} {w w' : World} {P P' : Nat → Prop} {us : List α} {xs : List Value} (h : CellsOf E w P us xs) (hb : Below w.heap.size w w') (hp : ∀ b, P b → b < w.heap.size → P' b) : CellsOf E w' P' us xs :=
  ⟨h.1, fun q hq => by
    obtain ⟨cs, e1, e2⟩ := h.2 q hq
    exact ⟨cs, e1, E.keep (Keeps.of_below hb _) hp e2⟩⟩

/-- What 'l8Split' answers. -/
def SplitS (ks : List T) (p q : Nat) (w : World) (e : Ending) (w' : World) : Prop :=
  Below w.heap.size w w' ∧ ∃ (lb : ByteArray) (sa : Option Addr) (sn sc : Nat), e = .returned (.agg #[.string lb, .slice sa sn sc]) ∧ RepS w' (fun b => b < w'.heap.size) (splitN ks p q) (.string lb) (.slice sa sn sc)

theorem addr_add (g o n : Nat) : (⟨g, o, none⟩ : Addr).add n = ⟨g, o + n, none⟩ := by unfold Addr.add; split <;> simp_all

set_option maxRecDepth 100000 in
set_option maxHeartbeats 4000000 in
theorem l8Split_any (c : UInt8) (ks : List T) (p q : Nat) (lb : ByteArray) (sa : Option Addr) (sn cap : Nat) (w : World) (hwf : T.wfL ks) (h2 : 2 ≤ q) (hq : q < ks.length) (hpq : p + q ≤ ks.length) (hr : RepS w (fun b => b < w.heap.size) (.node c ks) (.string lb) (.slice sa sn cap)) :
    Calls Try.prog 48 #[.agg #[.string lb, .slice sa sn cap], .int .i64 p, .int .i64 q] w (SplitS ks p q w) := by
  rw [RepS] at hr
  obtain ⟨hlb, g, cap', e, hPg, ⟨h6, hcap⟩, hL⟩ := hr
  clear hlb
  simp only [Value.slice.injEq] at e
  obtain ⟨rfl, rfl, rfl⟩ := e
  have hrd := Rd.of_node (P := fun b => b < w.heap.size) hPg hwf hL
  obtain ⟨pA, qA, rA⟩ := CellsOf.piece hrd (by decide) 0 p (by omega)
  obtain ⟨pB, qB, rB⟩ := CellsOf.piece hrd (by decide) p q (by omega)
  obtain ⟨pC, qC, rC⟩ := CellsOf.piece hrd (by decide) (p + q) (ks.length - (p + q)) (by omega)
  obtain ⟨n, hn⟩ : ∃ n, n = ks.length := ⟨_, rfl⟩
  rw [← hn] at pC qC rC h6 hcap hq hpq ⊢
  obtain ⟨xsA, hxsA⟩ : ∃ xsA, xsA = rowCells w g (0 * trS.size) (p * trS.size) := ⟨_, rfl⟩
  obtain ⟨xsB, hxsB⟩ : ∃ xsB, xsB = rowCells w g (p * trS.size) (q * trS.size) := ⟨_, rfl⟩
  obtain ⟨xsC, hxsC⟩ : ∃ xsC, xsC = rowCells w g ((p + q) * trS.size) ((n - (p + q)) * trS.size) := ⟨_, rfl⟩
  rw [← hxsA] at pA qA rA
  rw [← hxsB] at pB qB rB
  rw [← hxsC] at pC qC rC
  have XA1 : Hid (xsA.length = p * 2) := Lib.hid (by rw [hxsA, rowCells_length]; rfl)
  have XB1 : Hid (xsB.length = q * 2) := Lib.hid (by rw [hxsB, rowCells_length]; rfl)
  have XC1 : Hid (xsC.length = (n - (p + q)) * 2) := Lib.hid (by rw [hxsC, rowCells_length]; rfl)
  have XA2 : Hid (∀ j u, xsA[j]? = some u → w.cell? ((⟨g, 0, none⟩ : Addr).add j) = some u) := Lib.hid (fun j u hu => by
    have := qA j u hu
    rw [Nat.zero_mul] at this
    rw [addr_add]; exact this)
  have XB2 : Hid (∀ j u, xsB[j]? = some u → w.cell? ((⟨g, p * 2, none⟩ : Addr).add j) = some u) := Lib.hid (fun j u hu => by
    rw [addr_add]; exact qB j u hu)
  have XC2 : Hid (∀ j u, xsC[j]? = some u → w.cell? ((⟨g, (p + q) * 2, none⟩ : Addr).add j) = some u) := Lib.hid (fun j u hu => by
    rw [addr_add]; exact qC j u hu)
  have XA3 := Lib.hid rA
  have XB3 := Lib.hid rB
  have XC3 := Lib.hid rC
  have HN := Lib.hid hn
  have PA : Hid (CellsOf trS w (fun b => b < w.heap.size) (ks.take p) xsA) := Lib.hid (by simpa using pA)
  have PB := Lib.hid pB
  have PC : Hid (CellsOf trS w (fun b => b < w.heap.size) (ks.drop (p + q)) xsC) := Lib.hid (by
    have h3 : (ks.drop (p + q)).take (n - (p + q)) = ks.drop (p + q) := List.take_of_length_le (by rw [List.length_drop, hn]; exact Nat.le_refl _)
    rw [h3] at pC; exact pC)
  obtain ⟨i0, hi0, hzz, hzs, hzb⟩ := info_parts info42
  have R0 : Hid ((((w.alloc (.cells #[.string lb, .slice (some ⟨g, 0, none⟩) n cap] 39 (0, 0))).alloc (.cells #[.string ⟨#[]⟩, .slice none 0 0] 39 (0, 0))).alloc (.cells #[] 39 (0, 0))).ownsRow (w.heap.size + 1 + 1) 39 2 (.slice (some ⟨w.heap.size + 1 + 1, 0, none⟩) 0 0) 0 []) := Lib.hid (by
    have := World.ownsRow_made (base := w.heap.size + 1 + 1) (e := 39) (size := 2) ((w.alloc (.cells #[.string lb, .slice (some ⟨g, 0, none⟩) n cap] 39 (0, 0))).alloc (.cells #[.string ⟨#[]⟩, .slice none 0 0] 39 (0, 0))) #[] 0 (by simp) (by simp [maxLen]) rfl
    simpa using this)
  have HB0 : Hid (Below w.heap.size w (((w.alloc (.cells #[.string lb, .slice (some ⟨g, 0, none⟩) n cap] 39 (0, 0))).alloc (.cells #[.string ⟨#[]⟩, .slice none 0 0] 39 (0, 0))).alloc (.cells #[] 39 (0, 0)))) := Lib.hid ((((Below.refl _ _).alloc (Nat.le_refl _) _).alloc (by simp) _).alloc (by simp; omega) _)
  have p0 : (0 : Int) ≤ (p : Int) := by omega
  have q0 : (0 : Int) ≤ (q : Int) := by omega
  have pq0 : (0 : Int) ≤ (p : Int) + q := by omega
  have hpc : p < cap := by omega
  have hpc2 : p ≤ cap := by omega
  have hpq2 : p + q ≤ cap := by omega
  have hpn2 : p + q ≤ n := hpq
  have pqc : (p : Int) + q ≤ cap := by omega
  have ppq : (p : Int) ≤ (p : Int) + q := by omega
  have hwpq : IntKind.i64.wrap ((p : Int) + q) = (p : Int) + q := by rw [IntKind.wrap_i64]; omega
  have hpn : ((p : Int) + q).toNat = p + q := by omega
  clear hL hrd pA pB pC qA qB qC rA rB rC hxsA hxsB hxsC hn
  go_enter Try.func48, Try.ntmps48
  go_wp2_with (at_builtin; refine wpList_append_own_at _ rfl _ _ 37 rfl (w.heap.size + 1 + 1) 39 i0 (.agg #[.string ⟨#[]⟩, .slice none 0 0]) 2 40 Try.underlying37 hi0 hzz hzs hzb rfl (by decide) (.slice (some ⟨w.heap.size + 1 + 1, 0, none⟩) 0 0) 0 [] rfl R0.out ⟨g, p * 2, none⟩ q (cap - p) xsB rfl XB1.out (fun j u hu => keep1 HB0.out (XB2.out j u hu)) XB3.out (by unfold maxLen; omega) (by omega) (by simp) ?_; intro v1 w1 hown1 hg1 hnil1 hat1; obtain ⟨g1, c1, rfl, hqc1, _, _⟩ := owns_some hown1 (fun e => by have := hnil1.1 e; simp at this); have HB1 := Lib.hid (HB0.out.grown hg1 (by simp <;> omega) (fun k e => by have := (R0.out.lt k e).1; omega)); have HO1 : Hid (w1.ownsRow (w.heap.size + 1 + 1) 39 2 (.slice (some ⟨g1, 0, none⟩) q c1) q xsB) := Lib.hid (by have h := hown1; rw [Nat.zero_add, List.nil_append] at h; exact h); have HS1 : Hid (w.heap.size + 1 + 1 + 1 ≤ w1.heap.size) := Lib.hid (by have := hg1.size; simp at this; omega); have HBX := Lib.hid (fun b (hb : b < w.heap.size + 1 + 1) => hg1.block b (by simp <;> omega) (fun e => by have := (R0.out.lt b e.symm).1; omega)); have d1 : w1.cell? ⟨w.heap.size, 1, none⟩ = some (.slice (some ⟨g, 0, none⟩) n cap) := (World.cell?_of_block (HBX.out w.heap.size (by omega))).trans (by simp [go_sem]); clear hown1 hg1 hnil1 hat1)
  obtain ⟨B7, hB7⟩ : ∃ B7, B7 = w1.heap.size := ⟨_, rfl⟩
  obtain ⟨wc, hwc⟩ : ∃ wc, wc = w1.alloc (.cells #[.string ⟨#[97]⟩, .slice (some ⟨g1, 0, none⟩) q c1] 39 (0, 0)) := ⟨_, rfl⟩
  have hb7 : Below w1.heap.size w1 wc := by rw [hwc]; exact (Below.refl _ _).alloc (Nat.le_refl _) _
  have h7 : wc.heap[B7]? = some (.cells #[.string ⟨#[97]⟩, .slice (some ⟨g1, 0, none⟩) q c1] 39 (0, 0)) := by rw [hwc, hB7]; exact heap_alloc_new _ _
  have hsc : wc.heap.size = w1.heap.size + 1 := by rw [hwc]; simp
  have d1 := keep1 hb7 d1
  obtain ⟨e0, e1, _, _⟩ := two_cells h7
  have HBC := Lib.hid (below_step HB1.out hb7)
  have XA2w : Hid (∀ j u, xsA[j]? = some u → wc.cell? ((⟨g, 0, none⟩ : Addr).add j) = some u) := Lib.hid (fun j u hu => keep1 HBC.out (XA2.out j u hu))
  have XC2w : Hid (∀ j u, xsC[j]? = some u → wc.cell? ((⟨g, (p + q) * 2, none⟩ : Addr).add j) = some u) := Lib.hid (fun j u hu => keep1 HBC.out (XC2.out j u hu))
  have HRIN : Hid (RepS wc (fun b => b < wc.heap.size ∧ b ≠ w.heap.size + 1) (.node 97 ((ks.drop p).take q)) (.string ⟨#[97]⟩) (.slice (some ⟨g1, 0, none⟩) q c1)) := Lib.hid (by
    have hlq : ((ks.drop p).take q).length = q := by rw [List.length_take, List.length_drop, ← HN.out]; omega
    have hrow : Row (trS.inn fun b => b ≠ w.heap.size + 1) 39 (w.heap.size + 1 + 1) ((ks.drop p).take q) (.slice (some ⟨g1, 0, none⟩) q c1) xsB w1 := by
      exact Row.of_old HB1.out (by rw [hlq]; exact HO1.out) (by omega) (PB.out.below (E := trS) (P' := fun b => b < w.heap.size ∧ b ≠ w.heap.size + 1) (Below.refl _ _) (fun b h _ => ⟨h, by omega⟩)).2
    have hrd := hrow.rd.inn (fun b e h0 => by have := (HO1.out.lt b (by simp only [Option.some.injEq, Addr.mk.injEq] at e; rw [e.1]; rfl)).1; omega)
    exact RepS.of_rowQ (hrd.below (by decide) hb7) hlq.symm (by omega) (by omega) (by omega) 97)
  have HX6 : Hid (wc.heap[w.heap.size + 1]? = some (.cells #[.string ⟨#[]⟩, .slice none 0 0] 39 (0, 0))) := Lib.hid (by
    rw [hb7.block _ (by have := HB1.out.size; have := lt_of_block h7; rw [hsc, hB7] at this; have h9 := HS1.out; omega), HBX.out _ (by omega), Below.heap_alloc _ _ _ (by simp), show w.heap.size + 1 = (w.alloc (.cells #[.string lb, .slice (some ⟨g, 0, none⟩) n cap] 39 (0, 0))).heap.size by simp]
    exact heap_alloc_new _ _)
  have HWC := Lib.hid hwc
  have HB7E : Hid (w1.heap.size = B7) := Lib.hid hB7.symm
  have hs1 : w.heap.size + 1 + 1 + 1 ≤ w1.heap.size := HS1.out
  have hsc' : w.heap.size + 1 + 1 + 1 < wc.heap.size := by omega
  have hgc : g < wc.heap.size := by omega
  have hlk : ks.length = n := HN.out.symm
  have HLK := Lib.hid hlk
  clear hwc h7 hb7 hB7 hsc hlk
  rw [← HWC.out, HB7E.out]
  have FIN : Hid (∀ (g5 c5 : Nat) (W : World), W.ownsRow wc.heap.size 39 2 (.slice (some ⟨g5, 0, none⟩) (p + 1 + (n - (p + q))) c5) (p + 1 + (n - (p + q))) ((xsA ++ [.string ⟨#[97]⟩, .slice (some ⟨g1, 0, none⟩) q c1]) ++ xsC) → Below wc.heap.size wc W → p + 1 + (n - (p + q)) ≤ c5 →
      SplitS ks p q w (.returned (.agg #[.string ⟨#[97]⟩, .slice (some ⟨g5, 0, none⟩) (p + 1 + (n - (p + q))) c5])) ((W.setCell ⟨w.heap.size + 1, 0, none⟩ (.string ⟨#[97]⟩)).setCell ⟨w.heap.size + 1, 1, none⟩ (.slice (some ⟨g5, 0, none⟩) (p + 1 + (n - (p + q))) c5))) := Lib.hid (fun g5 c5 W hown hB hc5 => by
    have hlk := HLK.out
    have hlu : (ks.take p ++ T.node 97 ((ks.drop p).take q) :: ks.drop (p + q)).length = p + 1 + (n - (p + q)) := by
      rw [List.length_append, List.length_cons, List.length_take, List.length_drop, hlk]; omega
    have hwin : (T.node 97 ((ks.drop p).take q)).wf := by
      have hlq : ((ks.drop p).take q).length = q := by rw [List.length_take, List.length_drop, hlk]; omega
      rw [T.wf]
      refine ⟨by decide, by decide, by omega, by omega, ?_⟩
      have h := take_parts ks p q
      rw [h, wfL_append, wfL_append] at hwf
      exact hwf.2.1
    have hsplit : ks.take p ++ T.node 97 ((ks.drop p).take q) :: ks.drop (p + q) = (ks.take p ++ [T.node 97 ((ks.drop p).take q)]) ++ ks.drop (p + q) := by simp
    have hcells : CellsOf trS wc (fun b => b < wc.heap.size ∧ b ≠ w.heap.size + 1) (ks.take p ++ T.node 97 ((ks.drop p).take q) :: ks.drop (p + q)) ((xsA ++ [.string ⟨#[97]⟩, .slice (some ⟨g1, 0, none⟩) q c1]) ++ xsC) := by
      rw [hsplit]
      exact ((PA.out.below HBC.out (fun b h _ => ⟨by have := HBC.out.size; omega, by omega⟩)).append (CellsOf.one (E := trS) ⟨_, _, _, _, rfl, hwin, HRIN.out⟩)).append (PC.out.below HBC.out (fun b h _ => ⟨by have := HBC.out.size; omega, by omega⟩))
    have hrow : Row (trS.inn fun b => b ≠ w.heap.size + 1) 39 wc.heap.size (ks.take p ++ T.node 97 ((ks.drop p).take q) :: ks.drop (p + q)) (.slice (some ⟨g5, 0, none⟩) (p + 1 + (n - (p + q))) c5) ((xsA ++ [.string ⟨#[97]⟩, .slice (some ⟨g1, 0, none⟩) q c1]) ++ xsC) W :=
      Row.of_old hB (by rw [hlu]; exact hown) (Nat.le_refl _) hcells.2
    have hg5 := (hown.lt g5 rfl)
    have hrd := hrow.rd.inn (fun b e h0 => by simp only [Option.some.injEq, Addr.mk.injEq] at e; omega)
    have hX := (hB.block _ (by omega : w.heap.size + 1 < wc.heap.size)).trans HX6.out
    have hk : Keeps (fun b => b ≠ w.heap.size + 1) W ((W.setCell ⟨w.heap.size + 1, 0, none⟩ (.string ⟨#[97]⟩)).setCell ⟨w.heap.size + 1, 1, none⟩ (.slice (some ⟨g5, 0, none⟩) (p + 1 + (n - (p + q))) c5)) := fun a u ha hu => cell_put2 hu ha _ _
    refine ⟨((below_step HBC.out hB).setCell (p := ⟨w.heap.size + 1, 0, none⟩) (by simp) _).setCell (p := ⟨w.heap.size + 1, 1, none⟩) (by simp) _, _, _, _, _, rfl, ?_⟩
    have hfin := RepS.of_row (W := (W.setCell ⟨w.heap.size + 1, 0, none⟩ (.string ⟨#[97]⟩)).setCell ⟨w.heap.size + 1, 1, none⟩ (.slice (some ⟨g5, 0, none⟩) (p + 1 + (n - (p + q))) c5)) (hrd.keep (by decide) hk (fun _ _ _ => trivial)) hlu.symm (by omega) (by omega) hc5 97
    exact hfin)
  by_cases hpqc : cap = p + q
  · have XC20 : Hid (∀ j u, xsC[j]? = some u → wc.cell? ((⟨g, 0, none⟩ : Addr).add j) = some u) := Lib.hid (fun j u hu => by
      have h1 := XC1.out
      rw [show n - (p + q) = 0 by omega, Nat.zero_mul] at h1
      rw [List.length_eq_zero_iff.1 h1] at hu; simp at hu)
    have hpqd : (cap = p + q) = True := eq_true hpqc
    clear hpqc
    refine wp_region_held_drew (S := (fun w' => w'.cell? ⟨w.heap.size, 1, none⟩ = some (.slice (some ⟨g, 0, none⟩) n cap) ∧ w'.cell? ⟨B7, 0, none⟩ = some (.string ⟨#[97]⟩) ∧ w'.cell? ⟨B7, 1, none⟩ = some (.slice (some ⟨g1, 0, none⟩) q c1))) (by kernel_rfl) (by exact ⟨d1, e0, e1⟩) (fun hHeld => ?_)
    refine wpAnyH_take (i := 1) (oi := { dst := some 20, op := Op.fieldAddr 39 (Operand.tmp 3) 1, type := 0, pos := "l8_faces.go:128", after := #[], guard := none }) (v := ?_) rfl (by kernel_rfl) (by kernel_rfl) (by kernel_rfl) (fun _ _ _ h => h) (Or.inl ⟨by rfl, ?_⟩) (by assumption) ?_
    rotate_left
    · (intro w hSw; (try dsimp only at hSw); go_simp <;> with_reducible rfl)
    (try simp only [Act.put, List.setIfInBounds_toArray, List.set_cons_zero, List.set_cons_succ])
    refine wpAnyH_take (i := 2) (oi := { dst := some 21, op := Op.load 37 (Operand.tmp 20), type := 37, pos := "l8_faces.go:128", after := #[{ on := 1, ground := Ground.data }], guard := none }) (v := ?_) rfl (by kernel_rfl) (by kernel_rfl) (by kernel_rfl) (fun _ _ _ h => h) (Or.inl ⟨by rfl, ?_⟩) (by assumption) ?_
    rotate_left
    · (intro w hSw; (try dsimp only at hSw); go_simp <;> with_reducible rfl)
    (try simp only [Act.put, List.setIfInBounds_toArray, List.set_cons_zero, List.set_cons_succ])
    refine wpAnyH_take (i := 3) (oi := { dst := some 22, op := Op.move (Operand.tmp 1), type := 3, pos := "l8_faces.go:128", after := #[], guard := none }) (v := ?_) rfl (by kernel_rfl) (by kernel_rfl) (by kernel_rfl) (fun _ _ _ h => h) (Or.inl ⟨by rfl, ?_⟩) (by assumption) ?_
    rotate_left
    · (intro w hSw; (try dsimp only at hSw); go_simp <;> with_reducible rfl)
    (try simp only [Act.put, List.setIfInBounds_toArray, List.set_cons_zero, List.set_cons_succ])
    refine wpAnyH_take (i := 4) (oi := { dst := some 23, op := Op.slice 37 (Operand.tmp 21) none (some (Operand.tmp 22)) none, type := 37, pos := "l8_faces.go:128", after := #[{ on := 2, ground := Ground.data }, { on := 3, ground := Ground.data }], guard := none }) (v := ?_) rfl (by kernel_rfl) (by kernel_rfl) (by kernel_rfl) (fun _ _ _ h => h) (Or.inl ⟨by rfl, ?_⟩) (by assumption) ?_
    rotate_left
    · (intro w hSw; (try dsimp only at hSw); go_simp <;> with_reducible rfl)
    (try simp only [Act.put, List.setIfInBounds_toArray, List.set_cons_zero, List.set_cons_succ])
    refine wpAnyH_take (i := 6) (oi := { dst := some 25, op := Op.load 39 (Operand.tmp 7), type := 39, pos := "l8_faces.go:128", after := #[], guard := none }) (v := ?_) rfl (by kernel_rfl) (by kernel_rfl) (by kernel_rfl) (fun _ _ _ h => h) (Or.inl ⟨by rfl, ?_⟩) (by assumption) ?_
    rotate_left
    · (intro w hSw; (try dsimp only at hSw); go_simp <;> with_reducible rfl)
    (try simp only [Act.put, List.setIfInBounds_toArray, List.set_cons_zero, List.set_cons_succ])
    have HBD := Lib.hid (Below.refl wc.heap.size wc).drew
    refine wpAnyH_ready (rs := [0, 7]) (by kernel_rfl) (by simp) ?_
    refine AllReadyH.cons (o := { dst := some 19, op := Op.buildSlice 37 0 #[], type := 37, pos := "l8_faces.go:128", after := #[], guard := none }) rfl ?_ ?_
    · intro K hK
      go_simp
      go_wp2_with fail
      have HB1 := Lib.hid (HBD.out.alloc HBD.out.size (.cells #[] 39 (0, 0)))
      have OW2 : Hid (World.ownsRow (wc.drew.alloc (.cells #[] 39 (0, 0))) wc.heap.size 39 2 (.slice (some ⟨wc.heap.size, 0, none⟩) 0 0) 0 []) := Lib.hid (by exact World.ownsRow_made wc.drew #[] 0 HBD.out.size (by simp [maxLen]) rfl)
      refine hK.out _ _ ?_ (fun hHeld => ?_)
      · exact ⟨keep1 HB1.out d1, keep1 HB1.out e0, keep1 HB1.out e1⟩
      clear hK K
      (try simp only [Act.put, List.setIfInBounds_toArray, List.set_cons_zero, List.set_cons_succ])
      refine wpAnyH_ready (rs := [5, 7]) (by kernel_rfl) (by simp) ?_
      refine AllReadyH.cons (o := { dst := some 24, op := Op.call { callee := Callee.builtin Builtin.append, args := #[Operand.tmp 19, Operand.tmp 23], argTypes := #[37, 37] }, type := 37, pos := "l8_faces.go:128", after := #[{ on := 0, ground := Ground.data }, { on := 4, ground := Ground.data }], guard := none }) rfl ?_ ?_
      · intro K hK
        refine step_append_any _ (by rfl) _ _ 37 (by rfl) wc.heap.size 39 i0 (.agg #[.string ⟨#[]⟩, .slice none 0 0]) 2 40 Try.underlying37 hi0 hzz hzs hzb rfl (by decide) (.slice (some ⟨wc.heap.size, 0, none⟩) 0 0) 0 [] (by rfl) OW2.out (by simp) ⟨g, 0, none⟩ p cap xsA (by rfl) XA1.out (fun j u hu => keep1 HB1.out (XA2w.out j u hu)) XA3.out p xsA (by omega) (by rfl) (by unfold maxLen; omega) (by omega) HB1.out.size ?_
        intro g3 c3 w3 hown3 hgr3
        have HB4 := Lib.hid (HB1.out.grown hgr3 HB1.out.size (fun q e => (OW2.out.lt q e).1))
        have OW5 := Lib.hid hown3
        clear hown3 hgr3
        refine hK.out _ _ ?_ (fun hHeld => ?_)
        · exact ⟨keep1 HB4.out d1, keep1 HB4.out e0, keep1 HB4.out e1⟩
        clear hK K
        (try simp only [Act.put, List.setIfInBounds_toArray, List.set_cons_zero, List.set_cons_succ])
        refine wpAnyH_ready (rs := [7]) (by kernel_rfl) (by simp) ?_
        refine AllReadyH.cons (o := { dst := some 26, op := Op.buildSlice 37 1 #[(0, Operand.tmp 25)], type := 37, pos := "l8_faces.go:128", after := #[{ on := 6, ground := Ground.data }], guard := none }) rfl (fun K hK => ?_) AllReadyH.nil
        go_simp
        go_wp2_with fail
        have HB6 := Lib.hid (HB4.out.alloc HB4.out.size (.cells #[.string ⟨#[97]⟩, .slice (some ⟨g1, 0, none⟩) q c1] 39 (0, 0)))
        have OW7 := Lib.hid (World.ownsRow.alloc OW5.out (.cells #[.string ⟨#[97]⟩, .slice (some ⟨g1, 0, none⟩) q c1] 39 (0, 0)))
        have BX8 : Hid ((w3.alloc (.cells #[.string ⟨#[97]⟩, .slice (some ⟨g1, 0, none⟩) q c1] 39 (0, 0))).heap[w3.heap.size]? = some (.cells #[.string ⟨#[97]⟩, .slice (some ⟨g1, 0, none⟩) q c1] 39 (0, 0))) := Lib.hid (by exact heap_alloc_new w3 _)
        refine hK.out _ _ ?_ (fun hHeld => ?_)
        · exact ⟨keep1 HB6.out d1, keep1 HB6.out e0, keep1 HB6.out e1⟩
        clear hK K
        (try simp only [Act.put, List.setIfInBounds_toArray, List.set_cons_zero, List.set_cons_succ])
        refine wpAnyH_ready (rs := [8]) (by kernel_rfl) (by simp) ?_
        refine AllReadyH.cons (o := { dst := some 27, op := Op.call { callee := Callee.builtin Builtin.append, args := #[Operand.tmp 24, Operand.tmp 26], argTypes := #[37, 37] }, type := 37, pos := "l8_faces.go:128", after := #[{ on := 5, ground := Ground.data }, { on := 7, ground := Ground.data }, { on := 5, ground := Ground.chain }], guard := none }) rfl (fun K hK => ?_) AllReadyH.nil
        refine step_append_any _ (by rfl) _ _ 37 (by rfl) wc.heap.size 39 i0 (.agg #[.string ⟨#[]⟩, .slice none 0 0]) 2 40 Try.underlying37 hi0 hzz hzs hzb rfl (by decide) (.slice (some ⟨g3, 0, none⟩) p c3) p xsA (by rfl) OW7.out (by simp) ⟨w3.heap.size, 0, none⟩ 1 1 [.string ⟨#[97]⟩, .slice (some ⟨g1, 0, none⟩) q c1] (by rfl) (by rfl) (World.news_of_block BX8.out) (by simp [Value.oneCell']) (p + 1) (xsA ++ [.string ⟨#[97]⟩, .slice (some ⟨g1, 0, none⟩) q c1]) (by rfl) (by rfl) (by unfold maxLen; omega) (by omega) HB6.out.size ?_
        intro g9 c9 w9 hown9 hgr9
        have HB10 := Lib.hid (HB6.out.grown hgr9 HB6.out.size (fun q e => (OW7.out.lt q e).1))
        have OW11 := Lib.hid hown9
        clear hown9 hgr9
        refine hK.out _ _ ?_ (fun hHeld => ?_)
        · exact ⟨keep1 HB10.out d1, keep1 HB10.out e0, keep1 HB10.out e1⟩
        clear hK K
        (try simp only [Act.put, List.setIfInBounds_toArray, List.set_cons_zero, List.set_cons_succ])
        refine wpAnyH_take (i := 9) (oi := { dst := some 8, op := Op.assign (Operand.tmp 27), type := 37, pos := "l8_faces.go:128", after := #[{ on := 8, ground := Ground.data }, { on := 8, ground := Ground.chain }, { on := 0, ground := Ground.phase }, { on := 1, ground := Ground.phase }, { on := 2, ground := Ground.phase }, { on := 3, ground := Ground.phase }, { on := 4, ground := Ground.phase }, { on := 5, ground := Ground.phase }, { on := 6, ground := Ground.phase }, { on := 7, ground := Ground.phase }, { on := 8, ground := Ground.phase }], guard := none }) (v := ?_) rfl (by kernel_rfl) (by kernel_rfl) (by kernel_rfl) (fun _ _ _ h => h) (Or.inl ⟨by rfl, ?_⟩) (by assumption) ?_
        rotate_left
        · (intro w hSw; (try dsimp only at hSw); go_simp <;> with_reducible rfl)
        (try simp only [Act.put, List.setIfInBounds_toArray, List.set_cons_zero, List.set_cons_succ])
        refine wpAnyH_done (by kernel_rfl) ?_ _
        have HX7 := Lib.hid ((HB10.out.block _ (by omega : w.heap.size + 1 < wc.heap.size)).trans HX6.out)
        have d2 := keep1 HB10.out d1
        obtain ⟨f0, f1, f2, f3⟩ := two_cells HX7.out
        go_wp2_with (at_builtin; refine wpList_append_own_at _ rfl _ _ 37 rfl wc.heap.size 39 i0 (.agg #[.string ⟨#[]⟩, .slice none 0 0]) 2 40 Try.underlying37 hi0 hzz hzs hzb rfl (by decide) (.slice (some ⟨g9, 0, none⟩) (p + 1) c9) (p + 1) (xsA ++ [.string ⟨#[97]⟩, .slice (some ⟨g1, 0, none⟩) q c1]) rfl OW11.out ⟨g, 0, none⟩ (n - (p + q)) (cap - (p + q)) xsC rfl XC1.out (fun j u hu => keep1 HB10.out (XC20.out j u hu)) XC3.out (by unfold maxLen; omega) (by omega) HB10.out.size ?_; intro v5 w5 hown5 hgr5 hnil5 hat5; obtain ⟨g5, c5, rfl, hc5, _, _⟩ := owns_some hown5 (fun e => by have := hnil5.1 e; simp at this); have HB5 := Lib.hid (HB10.out.grown hgr5 HB10.out.size (fun q e => (OW11.out.lt q e).1)); have HO5 := Lib.hid hown5; have HC5 := Lib.hid hc5; have HX8 := Lib.hid ((HB5.out.block _ (by omega : w.heap.size + 1 < wc.heap.size)).trans HX6.out); obtain ⟨k0, k1, k2, k3⟩ := two_cells HX8.out; clear hown5 hgr5 hnil5 hat5 hc5)
        refine bodyPost_ret (v := .agg #[.string ⟨#[97]⟩, .slice (some ⟨g5, 0, none⟩) (p + 1 + (n - (p + q))) c5]) (by simp [results, Try.results48, go_sem, k0, k1]) rfl ?_
        exact FIN.out g5 c5 w5 HO5.out HB5.out HC5.out
      refine AllReadyH.cons (o := { dst := some 26, op := Op.buildSlice 37 1 #[(0, Operand.tmp 25)], type := 37, pos := "l8_faces.go:128", after := #[{ on := 6, ground := Ground.data }], guard := none }) rfl (fun K hK => ?_) AllReadyH.nil
      go_simp
      go_wp2_with fail
      have HB12 := Lib.hid (HB1.out.alloc HB1.out.size (.cells #[.string ⟨#[97]⟩, .slice (some ⟨g1, 0, none⟩) q c1] 39 (0, 0)))
      have OW13 := Lib.hid (World.ownsRow.alloc OW2.out (.cells #[.string ⟨#[97]⟩, .slice (some ⟨g1, 0, none⟩) q c1] 39 (0, 0)))
      have BX14 : Hid (((wc.drew.alloc (.cells #[] 39 (0, 0))).alloc (.cells #[.string ⟨#[97]⟩, .slice (some ⟨g1, 0, none⟩) q c1] 39 (0, 0))).heap[wc.heap.size + 1]? = some (.cells #[.string ⟨#[97]⟩, .slice (some ⟨g1, 0, none⟩) q c1] 39 (0, 0))) := Lib.hid (by rw [show wc.heap.size + 1 = (wc.drew.alloc (.cells #[] 39 (0, 0))).heap.size by simp]; exact heap_alloc_new (wc.drew.alloc (.cells #[] 39 (0, 0))) _)
      refine hK.out _ _ ?_ (fun hHeld => ?_)
      · exact ⟨keep1 HB12.out d1, keep1 HB12.out e0, keep1 HB12.out e1⟩
      clear hK K
      (try simp only [Act.put, List.setIfInBounds_toArray, List.set_cons_zero, List.set_cons_succ])
      refine wpAnyH_ready (rs := [5]) (by kernel_rfl) (by simp) ?_
      refine AllReadyH.cons (o := { dst := some 24, op := Op.call { callee := Callee.builtin Builtin.append, args := #[Operand.tmp 19, Operand.tmp 23], argTypes := #[37, 37] }, type := 37, pos := "l8_faces.go:128", after := #[{ on := 0, ground := Ground.data }, { on := 4, ground := Ground.data }], guard := none }) rfl (fun K hK => ?_) AllReadyH.nil
      refine step_append_any _ (by rfl) _ _ 37 (by rfl) wc.heap.size 39 i0 (.agg #[.string ⟨#[]⟩, .slice none 0 0]) 2 40 Try.underlying37 hi0 hzz hzs hzb rfl (by decide) (.slice (some ⟨wc.heap.size, 0, none⟩) 0 0) 0 [] (by rfl) OW13.out (by simp) ⟨g, 0, none⟩ p cap xsA (by rfl) XA1.out (fun j u hu => keep1 HB12.out (XA2w.out j u hu)) XA3.out p xsA (by omega) (by rfl) (by unfold maxLen; omega) (by omega) HB12.out.size ?_
      intro g15 c15 w15 hown15 hgr15
      have HB16 := Lib.hid (HB12.out.grown hgr15 HB12.out.size (fun q e => (OW13.out.lt q e).1))
      have OW17 := Lib.hid hown15
      have BX18 := Lib.hid ((hgr15.block _ (Array.getElem?_eq_some_iff.1 BX14.out).1 (fun e => by simp [Value.ownBlock] at e)).trans BX14.out)
      clear hown15 hgr15
      refine hK.out _ _ ?_ (fun hHeld => ?_)
      · exact ⟨keep1 HB16.out d1, keep1 HB16.out e0, keep1 HB16.out e1⟩
      clear hK K
      (try simp only [Act.put, List.setIfInBounds_toArray, List.set_cons_zero, List.set_cons_succ])
      refine wpAnyH_ready (rs := [8]) (by kernel_rfl) (by simp) ?_
      refine AllReadyH.cons (o := { dst := some 27, op := Op.call { callee := Callee.builtin Builtin.append, args := #[Operand.tmp 24, Operand.tmp 26], argTypes := #[37, 37] }, type := 37, pos := "l8_faces.go:128", after := #[{ on := 5, ground := Ground.data }, { on := 7, ground := Ground.data }, { on := 5, ground := Ground.chain }], guard := none }) rfl (fun K hK => ?_) AllReadyH.nil
      refine step_append_any _ (by rfl) _ _ 37 (by rfl) wc.heap.size 39 i0 (.agg #[.string ⟨#[]⟩, .slice none 0 0]) 2 40 Try.underlying37 hi0 hzz hzs hzb rfl (by decide) (.slice (some ⟨g15, 0, none⟩) p c15) p xsA (by rfl) OW17.out (by simp) ⟨wc.heap.size + 1, 0, none⟩ 1 1 [.string ⟨#[97]⟩, .slice (some ⟨g1, 0, none⟩) q c1] (by rfl) (by rfl) (World.news_of_block BX18.out) (by simp [Value.oneCell']) (p + 1) (xsA ++ [.string ⟨#[97]⟩, .slice (some ⟨g1, 0, none⟩) q c1]) (by rfl) (by rfl) (by unfold maxLen; omega) (by omega) HB16.out.size ?_
      intro g19 c19 w19 hown19 hgr19
      have HB20 := Lib.hid (HB16.out.grown hgr19 HB16.out.size (fun q e => (OW17.out.lt q e).1))
      have OW21 := Lib.hid hown19
      clear hown19 hgr19
      refine hK.out _ _ ?_ (fun hHeld => ?_)
      · exact ⟨keep1 HB20.out d1, keep1 HB20.out e0, keep1 HB20.out e1⟩
      clear hK K
      (try simp only [Act.put, List.setIfInBounds_toArray, List.set_cons_zero, List.set_cons_succ])
      refine wpAnyH_take (i := 9) (oi := { dst := some 8, op := Op.assign (Operand.tmp 27), type := 37, pos := "l8_faces.go:128", after := #[{ on := 8, ground := Ground.data }, { on := 8, ground := Ground.chain }, { on := 0, ground := Ground.phase }, { on := 1, ground := Ground.phase }, { on := 2, ground := Ground.phase }, { on := 3, ground := Ground.phase }, { on := 4, ground := Ground.phase }, { on := 5, ground := Ground.phase }, { on := 6, ground := Ground.phase }, { on := 7, ground := Ground.phase }, { on := 8, ground := Ground.phase }], guard := none }) (v := ?_) rfl (by kernel_rfl) (by kernel_rfl) (by kernel_rfl) (fun _ _ _ h => h) (Or.inl ⟨by rfl, ?_⟩) (by assumption) ?_
      rotate_left
      · (intro w hSw; (try dsimp only at hSw); go_simp <;> with_reducible rfl)
      (try simp only [Act.put, List.setIfInBounds_toArray, List.set_cons_zero, List.set_cons_succ])
      refine wpAnyH_done (by kernel_rfl) ?_ _
      have HX7 := Lib.hid ((HB20.out.block _ (by omega : w.heap.size + 1 < wc.heap.size)).trans HX6.out)
      have d2 := keep1 HB20.out d1
      obtain ⟨f0, f1, f2, f3⟩ := two_cells HX7.out
      go_wp2_with (at_builtin; refine wpList_append_own_at _ rfl _ _ 37 rfl wc.heap.size 39 i0 (.agg #[.string ⟨#[]⟩, .slice none 0 0]) 2 40 Try.underlying37 hi0 hzz hzs hzb rfl (by decide) (.slice (some ⟨g19, 0, none⟩) (p + 1) c19) (p + 1) (xsA ++ [.string ⟨#[97]⟩, .slice (some ⟨g1, 0, none⟩) q c1]) rfl OW21.out ⟨g, 0, none⟩ (n - (p + q)) (cap - (p + q)) xsC rfl XC1.out (fun j u hu => keep1 HB20.out (XC20.out j u hu)) XC3.out (by unfold maxLen; omega) (by omega) HB20.out.size ?_; intro v5 w5 hown5 hgr5 hnil5 hat5; obtain ⟨g5, c5, rfl, hc5, _, _⟩ := owns_some hown5 (fun e => by have := hnil5.1 e; simp at this); have HB5 := Lib.hid (HB20.out.grown hgr5 HB20.out.size (fun q e => (OW21.out.lt q e).1)); have HO5 := Lib.hid hown5; have HC5 := Lib.hid hc5; have HX8 := Lib.hid ((HB5.out.block _ (by omega : w.heap.size + 1 < wc.heap.size)).trans HX6.out); obtain ⟨k0, k1, k2, k3⟩ := two_cells HX8.out; clear hown5 hgr5 hnil5 hat5 hc5)
      refine bodyPost_ret (v := .agg #[.string ⟨#[97]⟩, .slice (some ⟨g5, 0, none⟩) (p + 1 + (n - (p + q))) c5]) (by simp [results, Try.results48, go_sem, k0, k1]) rfl ?_
      exact FIN.out g5 c5 w5 HO5.out HB5.out HC5.out
    refine AllReadyH.cons (o := { dst := some 26, op := Op.buildSlice 37 1 #[(0, Operand.tmp 25)], type := 37, pos := "l8_faces.go:128", after := #[{ on := 6, ground := Ground.data }], guard := none }) rfl (fun K hK => ?_) AllReadyH.nil
    go_simp
    go_wp2_with fail
    have HB22 := Lib.hid (HBD.out.alloc HBD.out.size (.cells #[.string ⟨#[97]⟩, .slice (some ⟨g1, 0, none⟩) q c1] 39 (0, 0)))
    have BX23 : Hid ((wc.drew.alloc (.cells #[.string ⟨#[97]⟩, .slice (some ⟨g1, 0, none⟩) q c1] 39 (0, 0))).heap[wc.heap.size]? = some (.cells #[.string ⟨#[97]⟩, .slice (some ⟨g1, 0, none⟩) q c1] 39 (0, 0))) := Lib.hid (by exact heap_alloc_new wc.drew _)
    refine hK.out _ _ ?_ (fun hHeld => ?_)
    · exact ⟨keep1 HB22.out d1, keep1 HB22.out e0, keep1 HB22.out e1⟩
    clear hK K
    (try simp only [Act.put, List.setIfInBounds_toArray, List.set_cons_zero, List.set_cons_succ])
    refine wpAnyH_ready (rs := [0]) (by kernel_rfl) (by simp) ?_
    refine AllReadyH.cons (o := { dst := some 19, op := Op.buildSlice 37 0 #[], type := 37, pos := "l8_faces.go:128", after := #[], guard := none }) rfl (fun K hK => ?_) AllReadyH.nil
    go_simp
    go_wp2_with fail
    have HB24 := Lib.hid (HB22.out.alloc HB22.out.size (.cells #[] 39 (0, 0)))
    have OW25 : Hid (World.ownsRow ((wc.drew.alloc (.cells #[.string ⟨#[97]⟩, .slice (some ⟨g1, 0, none⟩) q c1] 39 (0, 0))).alloc (.cells #[] 39 (0, 0))) wc.heap.size 39 2 (.slice (some ⟨wc.heap.size + 1, 0, none⟩) 0 0) 0 []) := Lib.hid (by rw [show wc.heap.size + 1 = (wc.drew.alloc (.cells #[.string ⟨#[97]⟩, .slice (some ⟨g1, 0, none⟩) q c1] 39 (0, 0))).heap.size by simp]; exact World.ownsRow_made (wc.drew.alloc (.cells #[.string ⟨#[97]⟩, .slice (some ⟨g1, 0, none⟩) q c1] 39 (0, 0))) #[] 0 HB22.out.size (by simp [maxLen]) rfl)
    have BX26 := Lib.hid ((Below.heap_alloc (wc.drew.alloc (.cells #[.string ⟨#[97]⟩, .slice (some ⟨g1, 0, none⟩) q c1] 39 (0, 0))) (.cells #[] 39 (0, 0)) _ (Array.getElem?_eq_some_iff.1 BX23.out).1).trans BX23.out)
    refine hK.out _ _ ?_ (fun hHeld => ?_)
    · exact ⟨keep1 HB24.out d1, keep1 HB24.out e0, keep1 HB24.out e1⟩
    clear hK K
    (try simp only [Act.put, List.setIfInBounds_toArray, List.set_cons_zero, List.set_cons_succ])
    refine wpAnyH_ready (rs := [5]) (by kernel_rfl) (by simp) ?_
    refine AllReadyH.cons (o := { dst := some 24, op := Op.call { callee := Callee.builtin Builtin.append, args := #[Operand.tmp 19, Operand.tmp 23], argTypes := #[37, 37] }, type := 37, pos := "l8_faces.go:128", after := #[{ on := 0, ground := Ground.data }, { on := 4, ground := Ground.data }], guard := none }) rfl (fun K hK => ?_) AllReadyH.nil
    refine step_append_any _ (by rfl) _ _ 37 (by rfl) wc.heap.size 39 i0 (.agg #[.string ⟨#[]⟩, .slice none 0 0]) 2 40 Try.underlying37 hi0 hzz hzs hzb rfl (by decide) (.slice (some ⟨wc.heap.size + 1, 0, none⟩) 0 0) 0 [] (by rfl) OW25.out (by simp) ⟨g, 0, none⟩ p cap xsA (by rfl) XA1.out (fun j u hu => keep1 HB24.out (XA2w.out j u hu)) XA3.out p xsA (by omega) (by rfl) (by unfold maxLen; omega) (by omega) HB24.out.size ?_
    intro g27 c27 w27 hown27 hgr27
    have HB28 := Lib.hid (HB24.out.grown hgr27 HB24.out.size (fun q e => (OW25.out.lt q e).1))
    have OW29 := Lib.hid hown27
    have BX30 := Lib.hid ((hgr27.block _ (Array.getElem?_eq_some_iff.1 BX26.out).1 (fun e => by simp [Value.ownBlock] at e)).trans BX26.out)
    clear hown27 hgr27
    refine hK.out _ _ ?_ (fun hHeld => ?_)
    · exact ⟨keep1 HB28.out d1, keep1 HB28.out e0, keep1 HB28.out e1⟩
    clear hK K
    (try simp only [Act.put, List.setIfInBounds_toArray, List.set_cons_zero, List.set_cons_succ])
    refine wpAnyH_ready (rs := [8]) (by kernel_rfl) (by simp) ?_
    refine AllReadyH.cons (o := { dst := some 27, op := Op.call { callee := Callee.builtin Builtin.append, args := #[Operand.tmp 24, Operand.tmp 26], argTypes := #[37, 37] }, type := 37, pos := "l8_faces.go:128", after := #[{ on := 5, ground := Ground.data }, { on := 7, ground := Ground.data }, { on := 5, ground := Ground.chain }], guard := none }) rfl (fun K hK => ?_) AllReadyH.nil
    refine step_append_any _ (by rfl) _ _ 37 (by rfl) wc.heap.size 39 i0 (.agg #[.string ⟨#[]⟩, .slice none 0 0]) 2 40 Try.underlying37 hi0 hzz hzs hzb rfl (by decide) (.slice (some ⟨g27, 0, none⟩) p c27) p xsA (by rfl) OW29.out (by simp) ⟨wc.heap.size, 0, none⟩ 1 1 [.string ⟨#[97]⟩, .slice (some ⟨g1, 0, none⟩) q c1] (by rfl) (by rfl) (World.news_of_block BX30.out) (by simp [Value.oneCell']) (p + 1) (xsA ++ [.string ⟨#[97]⟩, .slice (some ⟨g1, 0, none⟩) q c1]) (by rfl) (by rfl) (by unfold maxLen; omega) (by omega) HB28.out.size ?_
    intro g31 c31 w31 hown31 hgr31
    have HB32 := Lib.hid (HB28.out.grown hgr31 HB28.out.size (fun q e => (OW29.out.lt q e).1))
    have OW33 := Lib.hid hown31
    clear hown31 hgr31
    refine hK.out _ _ ?_ (fun hHeld => ?_)
    · exact ⟨keep1 HB32.out d1, keep1 HB32.out e0, keep1 HB32.out e1⟩
    clear hK K
    (try simp only [Act.put, List.setIfInBounds_toArray, List.set_cons_zero, List.set_cons_succ])
    refine wpAnyH_take (i := 9) (oi := { dst := some 8, op := Op.assign (Operand.tmp 27), type := 37, pos := "l8_faces.go:128", after := #[{ on := 8, ground := Ground.data }, { on := 8, ground := Ground.chain }, { on := 0, ground := Ground.phase }, { on := 1, ground := Ground.phase }, { on := 2, ground := Ground.phase }, { on := 3, ground := Ground.phase }, { on := 4, ground := Ground.phase }, { on := 5, ground := Ground.phase }, { on := 6, ground := Ground.phase }, { on := 7, ground := Ground.phase }, { on := 8, ground := Ground.phase }], guard := none }) (v := ?_) rfl (by kernel_rfl) (by kernel_rfl) (by kernel_rfl) (fun _ _ _ h => h) (Or.inl ⟨by rfl, ?_⟩) (by assumption) ?_
    rotate_left
    · (intro w hSw; (try dsimp only at hSw); go_simp <;> with_reducible rfl)
    (try simp only [Act.put, List.setIfInBounds_toArray, List.set_cons_zero, List.set_cons_succ])
    refine wpAnyH_done (by kernel_rfl) ?_ _
    have HX7 := Lib.hid ((HB32.out.block _ (by omega : w.heap.size + 1 < wc.heap.size)).trans HX6.out)
    have d2 := keep1 HB32.out d1
    obtain ⟨f0, f1, f2, f3⟩ := two_cells HX7.out
    go_wp2_with (at_builtin; refine wpList_append_own_at _ rfl _ _ 37 rfl wc.heap.size 39 i0 (.agg #[.string ⟨#[]⟩, .slice none 0 0]) 2 40 Try.underlying37 hi0 hzz hzs hzb rfl (by decide) (.slice (some ⟨g31, 0, none⟩) (p + 1) c31) (p + 1) (xsA ++ [.string ⟨#[97]⟩, .slice (some ⟨g1, 0, none⟩) q c1]) rfl OW33.out ⟨g, 0, none⟩ (n - (p + q)) (cap - (p + q)) xsC rfl XC1.out (fun j u hu => keep1 HB32.out (XC20.out j u hu)) XC3.out (by unfold maxLen; omega) (by omega) HB32.out.size ?_; intro v5 w5 hown5 hgr5 hnil5 hat5; obtain ⟨g5, c5, rfl, hc5, _, _⟩ := owns_some hown5 (fun e => by have := hnil5.1 e; simp at this); have HB5 := Lib.hid (HB32.out.grown hgr5 HB32.out.size (fun q e => (OW33.out.lt q e).1)); have HO5 := Lib.hid hown5; have HC5 := Lib.hid hc5; have HX8 := Lib.hid ((HB5.out.block _ (by omega : w.heap.size + 1 < wc.heap.size)).trans HX6.out); obtain ⟨k0, k1, k2, k3⟩ := two_cells HX8.out; clear hown5 hgr5 hnil5 hat5 hc5)
    refine bodyPost_ret (v := .agg #[.string ⟨#[97]⟩, .slice (some ⟨g5, 0, none⟩) (p + 1 + (n - (p + q))) c5]) (by simp [results, Try.results48, go_sem, k0, k1]) rfl ?_
    exact FIN.out g5 c5 w5 HO5.out HB5.out HC5.out
  · have hpqd : (cap = p + q) = False := by simpa using hpqc
    refine wp_region_held_drew (S := (fun w' => w'.cell? ⟨w.heap.size, 1, none⟩ = some (.slice (some ⟨g, 0, none⟩) n cap) ∧ w'.cell? ⟨B7, 0, none⟩ = some (.string ⟨#[97]⟩) ∧ w'.cell? ⟨B7, 1, none⟩ = some (.slice (some ⟨g1, 0, none⟩) q c1))) (by kernel_rfl) (by exact ⟨d1, e0, e1⟩) (fun hHeld => ?_)
    refine wpAnyH_take (i := 1) (oi := { dst := some 20, op := Op.fieldAddr 39 (Operand.tmp 3) 1, type := 0, pos := "l8_faces.go:128", after := #[], guard := none }) (v := ?_) rfl (by kernel_rfl) (by kernel_rfl) (by kernel_rfl) (fun _ _ _ h => h) (Or.inl ⟨by rfl, ?_⟩) (by assumption) ?_
    rotate_left
    · (intro w hSw; (try dsimp only at hSw); go_simp <;> with_reducible rfl)
    (try simp only [Act.put, List.setIfInBounds_toArray, List.set_cons_zero, List.set_cons_succ])
    refine wpAnyH_take (i := 2) (oi := { dst := some 21, op := Op.load 37 (Operand.tmp 20), type := 37, pos := "l8_faces.go:128", after := #[{ on := 1, ground := Ground.data }], guard := none }) (v := ?_) rfl (by kernel_rfl) (by kernel_rfl) (by kernel_rfl) (fun _ _ _ h => h) (Or.inl ⟨by rfl, ?_⟩) (by assumption) ?_
    rotate_left
    · (intro w hSw; (try dsimp only at hSw); go_simp <;> with_reducible rfl)
    (try simp only [Act.put, List.setIfInBounds_toArray, List.set_cons_zero, List.set_cons_succ])
    refine wpAnyH_take (i := 3) (oi := { dst := some 22, op := Op.move (Operand.tmp 1), type := 3, pos := "l8_faces.go:128", after := #[], guard := none }) (v := ?_) rfl (by kernel_rfl) (by kernel_rfl) (by kernel_rfl) (fun _ _ _ h => h) (Or.inl ⟨by rfl, ?_⟩) (by assumption) ?_
    rotate_left
    · (intro w hSw; (try dsimp only at hSw); go_simp <;> with_reducible rfl)
    (try simp only [Act.put, List.setIfInBounds_toArray, List.set_cons_zero, List.set_cons_succ])
    refine wpAnyH_take (i := 4) (oi := { dst := some 23, op := Op.slice 37 (Operand.tmp 21) none (some (Operand.tmp 22)) none, type := 37, pos := "l8_faces.go:128", after := #[{ on := 2, ground := Ground.data }, { on := 3, ground := Ground.data }], guard := none }) (v := ?_) rfl (by kernel_rfl) (by kernel_rfl) (by kernel_rfl) (fun _ _ _ h => h) (Or.inl ⟨by rfl, ?_⟩) (by assumption) ?_
    rotate_left
    · (intro w hSw; (try dsimp only at hSw); go_simp <;> with_reducible rfl)
    (try simp only [Act.put, List.setIfInBounds_toArray, List.set_cons_zero, List.set_cons_succ])
    refine wpAnyH_take (i := 6) (oi := { dst := some 25, op := Op.load 39 (Operand.tmp 7), type := 39, pos := "l8_faces.go:128", after := #[], guard := none }) (v := ?_) rfl (by kernel_rfl) (by kernel_rfl) (by kernel_rfl) (fun _ _ _ h => h) (Or.inl ⟨by rfl, ?_⟩) (by assumption) ?_
    rotate_left
    · (intro w hSw; (try dsimp only at hSw); go_simp <;> with_reducible rfl)
    (try simp only [Act.put, List.setIfInBounds_toArray, List.set_cons_zero, List.set_cons_succ])
    have HBD := Lib.hid (Below.refl wc.heap.size wc).drew
    refine wpAnyH_ready (rs := [0, 7]) (by kernel_rfl) (by simp) ?_
    refine AllReadyH.cons (o := { dst := some 19, op := Op.buildSlice 37 0 #[], type := 37, pos := "l8_faces.go:128", after := #[], guard := none }) rfl ?_ ?_
    · intro K hK
      go_simp
      go_wp2_with fail
      have HB34 := Lib.hid (HBD.out.alloc HBD.out.size (.cells #[] 39 (0, 0)))
      have OW35 : Hid (World.ownsRow (wc.drew.alloc (.cells #[] 39 (0, 0))) wc.heap.size 39 2 (.slice (some ⟨wc.heap.size, 0, none⟩) 0 0) 0 []) := Lib.hid (by exact World.ownsRow_made wc.drew #[] 0 HBD.out.size (by simp [maxLen]) rfl)
      refine hK.out _ _ ?_ (fun hHeld => ?_)
      · exact ⟨keep1 HB34.out d1, keep1 HB34.out e0, keep1 HB34.out e1⟩
      clear hK K
      (try simp only [Act.put, List.setIfInBounds_toArray, List.set_cons_zero, List.set_cons_succ])
      refine wpAnyH_ready (rs := [5, 7]) (by kernel_rfl) (by simp) ?_
      refine AllReadyH.cons (o := { dst := some 24, op := Op.call { callee := Callee.builtin Builtin.append, args := #[Operand.tmp 19, Operand.tmp 23], argTypes := #[37, 37] }, type := 37, pos := "l8_faces.go:128", after := #[{ on := 0, ground := Ground.data }, { on := 4, ground := Ground.data }], guard := none }) rfl ?_ ?_
      · intro K hK
        refine step_append_any _ (by rfl) _ _ 37 (by rfl) wc.heap.size 39 i0 (.agg #[.string ⟨#[]⟩, .slice none 0 0]) 2 40 Try.underlying37 hi0 hzz hzs hzb rfl (by decide) (.slice (some ⟨wc.heap.size, 0, none⟩) 0 0) 0 [] (by rfl) OW35.out (by simp) ⟨g, 0, none⟩ p cap xsA (by rfl) XA1.out (fun j u hu => keep1 HB34.out (XA2w.out j u hu)) XA3.out p xsA (by omega) (by rfl) (by unfold maxLen; omega) (by omega) HB34.out.size ?_
        intro g36 c36 w36 hown36 hgr36
        have HB37 := Lib.hid (HB34.out.grown hgr36 HB34.out.size (fun q e => (OW35.out.lt q e).1))
        have OW38 := Lib.hid hown36
        clear hown36 hgr36
        refine hK.out _ _ ?_ (fun hHeld => ?_)
        · exact ⟨keep1 HB37.out d1, keep1 HB37.out e0, keep1 HB37.out e1⟩
        clear hK K
        (try simp only [Act.put, List.setIfInBounds_toArray, List.set_cons_zero, List.set_cons_succ])
        refine wpAnyH_ready (rs := [7]) (by kernel_rfl) (by simp) ?_
        refine AllReadyH.cons (o := { dst := some 26, op := Op.buildSlice 37 1 #[(0, Operand.tmp 25)], type := 37, pos := "l8_faces.go:128", after := #[{ on := 6, ground := Ground.data }], guard := none }) rfl (fun K hK => ?_) AllReadyH.nil
        go_simp
        go_wp2_with fail
        have HB39 := Lib.hid (HB37.out.alloc HB37.out.size (.cells #[.string ⟨#[97]⟩, .slice (some ⟨g1, 0, none⟩) q c1] 39 (0, 0)))
        have OW40 := Lib.hid (World.ownsRow.alloc OW38.out (.cells #[.string ⟨#[97]⟩, .slice (some ⟨g1, 0, none⟩) q c1] 39 (0, 0)))
        have BX41 : Hid ((w36.alloc (.cells #[.string ⟨#[97]⟩, .slice (some ⟨g1, 0, none⟩) q c1] 39 (0, 0))).heap[w36.heap.size]? = some (.cells #[.string ⟨#[97]⟩, .slice (some ⟨g1, 0, none⟩) q c1] 39 (0, 0))) := Lib.hid (by exact heap_alloc_new w36 _)
        refine hK.out _ _ ?_ (fun hHeld => ?_)
        · exact ⟨keep1 HB39.out d1, keep1 HB39.out e0, keep1 HB39.out e1⟩
        clear hK K
        (try simp only [Act.put, List.setIfInBounds_toArray, List.set_cons_zero, List.set_cons_succ])
        refine wpAnyH_ready (rs := [8]) (by kernel_rfl) (by simp) ?_
        refine AllReadyH.cons (o := { dst := some 27, op := Op.call { callee := Callee.builtin Builtin.append, args := #[Operand.tmp 24, Operand.tmp 26], argTypes := #[37, 37] }, type := 37, pos := "l8_faces.go:128", after := #[{ on := 5, ground := Ground.data }, { on := 7, ground := Ground.data }, { on := 5, ground := Ground.chain }], guard := none }) rfl (fun K hK => ?_) AllReadyH.nil
        refine step_append_any _ (by rfl) _ _ 37 (by rfl) wc.heap.size 39 i0 (.agg #[.string ⟨#[]⟩, .slice none 0 0]) 2 40 Try.underlying37 hi0 hzz hzs hzb rfl (by decide) (.slice (some ⟨g36, 0, none⟩) p c36) p xsA (by rfl) OW40.out (by simp) ⟨w36.heap.size, 0, none⟩ 1 1 [.string ⟨#[97]⟩, .slice (some ⟨g1, 0, none⟩) q c1] (by rfl) (by rfl) (World.news_of_block BX41.out) (by simp [Value.oneCell']) (p + 1) (xsA ++ [.string ⟨#[97]⟩, .slice (some ⟨g1, 0, none⟩) q c1]) (by rfl) (by rfl) (by unfold maxLen; omega) (by omega) HB39.out.size ?_
        intro g42 c42 w42 hown42 hgr42
        have HB43 := Lib.hid (HB39.out.grown hgr42 HB39.out.size (fun q e => (OW40.out.lt q e).1))
        have OW44 := Lib.hid hown42
        clear hown42 hgr42
        refine hK.out _ _ ?_ (fun hHeld => ?_)
        · exact ⟨keep1 HB43.out d1, keep1 HB43.out e0, keep1 HB43.out e1⟩
        clear hK K
        (try simp only [Act.put, List.setIfInBounds_toArray, List.set_cons_zero, List.set_cons_succ])
        refine wpAnyH_take (i := 9) (oi := { dst := some 8, op := Op.assign (Operand.tmp 27), type := 37, pos := "l8_faces.go:128", after := #[{ on := 8, ground := Ground.data }, { on := 8, ground := Ground.chain }, { on := 0, ground := Ground.phase }, { on := 1, ground := Ground.phase }, { on := 2, ground := Ground.phase }, { on := 3, ground := Ground.phase }, { on := 4, ground := Ground.phase }, { on := 5, ground := Ground.phase }, { on := 6, ground := Ground.phase }, { on := 7, ground := Ground.phase }, { on := 8, ground := Ground.phase }], guard := none }) (v := ?_) rfl (by kernel_rfl) (by kernel_rfl) (by kernel_rfl) (fun _ _ _ h => h) (Or.inl ⟨by rfl, ?_⟩) (by assumption) ?_
        rotate_left
        · (intro w hSw; (try dsimp only at hSw); go_simp <;> with_reducible rfl)
        (try simp only [Act.put, List.setIfInBounds_toArray, List.set_cons_zero, List.set_cons_succ])
        refine wpAnyH_done (by kernel_rfl) ?_ _
        have HX7 := Lib.hid ((HB43.out.block _ (by omega : w.heap.size + 1 < wc.heap.size)).trans HX6.out)
        have d2 := keep1 HB43.out d1
        obtain ⟨f0, f1, f2, f3⟩ := two_cells HX7.out
        go_wp2_with (at_builtin; refine wpList_append_own_at _ rfl _ _ 37 rfl wc.heap.size 39 i0 (.agg #[.string ⟨#[]⟩, .slice none 0 0]) 2 40 Try.underlying37 hi0 hzz hzs hzb rfl (by decide) (.slice (some ⟨g42, 0, none⟩) (p + 1) c42) (p + 1) (xsA ++ [.string ⟨#[97]⟩, .slice (some ⟨g1, 0, none⟩) q c1]) rfl OW44.out ⟨g, (p + q) * 2, none⟩ (n - (p + q)) (cap - (p + q)) xsC rfl XC1.out (fun j u hu => keep1 HB43.out (XC2w.out j u hu)) XC3.out (by unfold maxLen; omega) (by omega) HB43.out.size ?_; intro v5 w5 hown5 hgr5 hnil5 hat5; obtain ⟨g5, c5, rfl, hc5, _, _⟩ := owns_some hown5 (fun e => by have := hnil5.1 e; simp at this); have HB5 := Lib.hid (HB43.out.grown hgr5 HB43.out.size (fun q e => (OW44.out.lt q e).1)); have HO5 := Lib.hid hown5; have HC5 := Lib.hid hc5; have HX8 := Lib.hid ((HB5.out.block _ (by omega : w.heap.size + 1 < wc.heap.size)).trans HX6.out); obtain ⟨k0, k1, k2, k3⟩ := two_cells HX8.out; clear hown5 hgr5 hnil5 hat5 hc5)
        refine bodyPost_ret (v := .agg #[.string ⟨#[97]⟩, .slice (some ⟨g5, 0, none⟩) (p + 1 + (n - (p + q))) c5]) (by simp [results, Try.results48, go_sem, k0, k1]) rfl ?_
        exact FIN.out g5 c5 w5 HO5.out HB5.out HC5.out
      refine AllReadyH.cons (o := { dst := some 26, op := Op.buildSlice 37 1 #[(0, Operand.tmp 25)], type := 37, pos := "l8_faces.go:128", after := #[{ on := 6, ground := Ground.data }], guard := none }) rfl (fun K hK => ?_) AllReadyH.nil
      go_simp
      go_wp2_with fail
      have HB45 := Lib.hid (HB34.out.alloc HB34.out.size (.cells #[.string ⟨#[97]⟩, .slice (some ⟨g1, 0, none⟩) q c1] 39 (0, 0)))
      have OW46 := Lib.hid (World.ownsRow.alloc OW35.out (.cells #[.string ⟨#[97]⟩, .slice (some ⟨g1, 0, none⟩) q c1] 39 (0, 0)))
      have BX47 : Hid (((wc.drew.alloc (.cells #[] 39 (0, 0))).alloc (.cells #[.string ⟨#[97]⟩, .slice (some ⟨g1, 0, none⟩) q c1] 39 (0, 0))).heap[wc.heap.size + 1]? = some (.cells #[.string ⟨#[97]⟩, .slice (some ⟨g1, 0, none⟩) q c1] 39 (0, 0))) := Lib.hid (by rw [show wc.heap.size + 1 = (wc.drew.alloc (.cells #[] 39 (0, 0))).heap.size by simp]; exact heap_alloc_new (wc.drew.alloc (.cells #[] 39 (0, 0))) _)
      refine hK.out _ _ ?_ (fun hHeld => ?_)
      · exact ⟨keep1 HB45.out d1, keep1 HB45.out e0, keep1 HB45.out e1⟩
      clear hK K
      (try simp only [Act.put, List.setIfInBounds_toArray, List.set_cons_zero, List.set_cons_succ])
      refine wpAnyH_ready (rs := [5]) (by kernel_rfl) (by simp) ?_
      refine AllReadyH.cons (o := { dst := some 24, op := Op.call { callee := Callee.builtin Builtin.append, args := #[Operand.tmp 19, Operand.tmp 23], argTypes := #[37, 37] }, type := 37, pos := "l8_faces.go:128", after := #[{ on := 0, ground := Ground.data }, { on := 4, ground := Ground.data }], guard := none }) rfl (fun K hK => ?_) AllReadyH.nil
      refine step_append_any _ (by rfl) _ _ 37 (by rfl) wc.heap.size 39 i0 (.agg #[.string ⟨#[]⟩, .slice none 0 0]) 2 40 Try.underlying37 hi0 hzz hzs hzb rfl (by decide) (.slice (some ⟨wc.heap.size, 0, none⟩) 0 0) 0 [] (by rfl) OW46.out (by simp) ⟨g, 0, none⟩ p cap xsA (by rfl) XA1.out (fun j u hu => keep1 HB45.out (XA2w.out j u hu)) XA3.out p xsA (by omega) (by rfl) (by unfold maxLen; omega) (by omega) HB45.out.size ?_
      intro g48 c48 w48 hown48 hgr48
      have HB49 := Lib.hid (HB45.out.grown hgr48 HB45.out.size (fun q e => (OW46.out.lt q e).1))
      have OW50 := Lib.hid hown48
      have BX51 := Lib.hid ((hgr48.block _ (Array.getElem?_eq_some_iff.1 BX47.out).1 (fun e => by simp [Value.ownBlock] at e)).trans BX47.out)
      clear hown48 hgr48
      refine hK.out _ _ ?_ (fun hHeld => ?_)
      · exact ⟨keep1 HB49.out d1, keep1 HB49.out e0, keep1 HB49.out e1⟩
      clear hK K
      (try simp only [Act.put, List.setIfInBounds_toArray, List.set_cons_zero, List.set_cons_succ])
      refine wpAnyH_ready (rs := [8]) (by kernel_rfl) (by simp) ?_
      refine AllReadyH.cons (o := { dst := some 27, op := Op.call { callee := Callee.builtin Builtin.append, args := #[Operand.tmp 24, Operand.tmp 26], argTypes := #[37, 37] }, type := 37, pos := "l8_faces.go:128", after := #[{ on := 5, ground := Ground.data }, { on := 7, ground := Ground.data }, { on := 5, ground := Ground.chain }], guard := none }) rfl (fun K hK => ?_) AllReadyH.nil
      refine step_append_any _ (by rfl) _ _ 37 (by rfl) wc.heap.size 39 i0 (.agg #[.string ⟨#[]⟩, .slice none 0 0]) 2 40 Try.underlying37 hi0 hzz hzs hzb rfl (by decide) (.slice (some ⟨g48, 0, none⟩) p c48) p xsA (by rfl) OW50.out (by simp) ⟨wc.heap.size + 1, 0, none⟩ 1 1 [.string ⟨#[97]⟩, .slice (some ⟨g1, 0, none⟩) q c1] (by rfl) (by rfl) (World.news_of_block BX51.out) (by simp [Value.oneCell']) (p + 1) (xsA ++ [.string ⟨#[97]⟩, .slice (some ⟨g1, 0, none⟩) q c1]) (by rfl) (by rfl) (by unfold maxLen; omega) (by omega) HB49.out.size ?_
      intro g52 c52 w52 hown52 hgr52
      have HB53 := Lib.hid (HB49.out.grown hgr52 HB49.out.size (fun q e => (OW50.out.lt q e).1))
      have OW54 := Lib.hid hown52
      clear hown52 hgr52
      refine hK.out _ _ ?_ (fun hHeld => ?_)
      · exact ⟨keep1 HB53.out d1, keep1 HB53.out e0, keep1 HB53.out e1⟩
      clear hK K
      (try simp only [Act.put, List.setIfInBounds_toArray, List.set_cons_zero, List.set_cons_succ])
      refine wpAnyH_take (i := 9) (oi := { dst := some 8, op := Op.assign (Operand.tmp 27), type := 37, pos := "l8_faces.go:128", after := #[{ on := 8, ground := Ground.data }, { on := 8, ground := Ground.chain }, { on := 0, ground := Ground.phase }, { on := 1, ground := Ground.phase }, { on := 2, ground := Ground.phase }, { on := 3, ground := Ground.phase }, { on := 4, ground := Ground.phase }, { on := 5, ground := Ground.phase }, { on := 6, ground := Ground.phase }, { on := 7, ground := Ground.phase }, { on := 8, ground := Ground.phase }], guard := none }) (v := ?_) rfl (by kernel_rfl) (by kernel_rfl) (by kernel_rfl) (fun _ _ _ h => h) (Or.inl ⟨by rfl, ?_⟩) (by assumption) ?_
      rotate_left
      · (intro w hSw; (try dsimp only at hSw); go_simp <;> with_reducible rfl)
      (try simp only [Act.put, List.setIfInBounds_toArray, List.set_cons_zero, List.set_cons_succ])
      refine wpAnyH_done (by kernel_rfl) ?_ _
      have HX7 := Lib.hid ((HB53.out.block _ (by omega : w.heap.size + 1 < wc.heap.size)).trans HX6.out)
      have d2 := keep1 HB53.out d1
      obtain ⟨f0, f1, f2, f3⟩ := two_cells HX7.out
      go_wp2_with (at_builtin; refine wpList_append_own_at _ rfl _ _ 37 rfl wc.heap.size 39 i0 (.agg #[.string ⟨#[]⟩, .slice none 0 0]) 2 40 Try.underlying37 hi0 hzz hzs hzb rfl (by decide) (.slice (some ⟨g52, 0, none⟩) (p + 1) c52) (p + 1) (xsA ++ [.string ⟨#[97]⟩, .slice (some ⟨g1, 0, none⟩) q c1]) rfl OW54.out ⟨g, (p + q) * 2, none⟩ (n - (p + q)) (cap - (p + q)) xsC rfl XC1.out (fun j u hu => keep1 HB53.out (XC2w.out j u hu)) XC3.out (by unfold maxLen; omega) (by omega) HB53.out.size ?_; intro v5 w5 hown5 hgr5 hnil5 hat5; obtain ⟨g5, c5, rfl, hc5, _, _⟩ := owns_some hown5 (fun e => by have := hnil5.1 e; simp at this); have HB5 := Lib.hid (HB53.out.grown hgr5 HB53.out.size (fun q e => (OW54.out.lt q e).1)); have HO5 := Lib.hid hown5; have HC5 := Lib.hid hc5; have HX8 := Lib.hid ((HB5.out.block _ (by omega : w.heap.size + 1 < wc.heap.size)).trans HX6.out); obtain ⟨k0, k1, k2, k3⟩ := two_cells HX8.out; clear hown5 hgr5 hnil5 hat5 hc5)
      refine bodyPost_ret (v := .agg #[.string ⟨#[97]⟩, .slice (some ⟨g5, 0, none⟩) (p + 1 + (n - (p + q))) c5]) (by simp [results, Try.results48, go_sem, k0, k1]) rfl ?_
      exact FIN.out g5 c5 w5 HO5.out HB5.out HC5.out
    refine AllReadyH.cons (o := { dst := some 26, op := Op.buildSlice 37 1 #[(0, Operand.tmp 25)], type := 37, pos := "l8_faces.go:128", after := #[{ on := 6, ground := Ground.data }], guard := none }) rfl (fun K hK => ?_) AllReadyH.nil
    go_simp
    go_wp2_with fail
    have HB55 := Lib.hid (HBD.out.alloc HBD.out.size (.cells #[.string ⟨#[97]⟩, .slice (some ⟨g1, 0, none⟩) q c1] 39 (0, 0)))
    have BX56 : Hid ((wc.drew.alloc (.cells #[.string ⟨#[97]⟩, .slice (some ⟨g1, 0, none⟩) q c1] 39 (0, 0))).heap[wc.heap.size]? = some (.cells #[.string ⟨#[97]⟩, .slice (some ⟨g1, 0, none⟩) q c1] 39 (0, 0))) := Lib.hid (by exact heap_alloc_new wc.drew _)
    refine hK.out _ _ ?_ (fun hHeld => ?_)
    · exact ⟨keep1 HB55.out d1, keep1 HB55.out e0, keep1 HB55.out e1⟩
    clear hK K
    (try simp only [Act.put, List.setIfInBounds_toArray, List.set_cons_zero, List.set_cons_succ])
    refine wpAnyH_ready (rs := [0]) (by kernel_rfl) (by simp) ?_
    refine AllReadyH.cons (o := { dst := some 19, op := Op.buildSlice 37 0 #[], type := 37, pos := "l8_faces.go:128", after := #[], guard := none }) rfl (fun K hK => ?_) AllReadyH.nil
    go_simp
    go_wp2_with fail
    have HB57 := Lib.hid (HB55.out.alloc HB55.out.size (.cells #[] 39 (0, 0)))
    have OW58 : Hid (World.ownsRow ((wc.drew.alloc (.cells #[.string ⟨#[97]⟩, .slice (some ⟨g1, 0, none⟩) q c1] 39 (0, 0))).alloc (.cells #[] 39 (0, 0))) wc.heap.size 39 2 (.slice (some ⟨wc.heap.size + 1, 0, none⟩) 0 0) 0 []) := Lib.hid (by rw [show wc.heap.size + 1 = (wc.drew.alloc (.cells #[.string ⟨#[97]⟩, .slice (some ⟨g1, 0, none⟩) q c1] 39 (0, 0))).heap.size by simp]; exact World.ownsRow_made (wc.drew.alloc (.cells #[.string ⟨#[97]⟩, .slice (some ⟨g1, 0, none⟩) q c1] 39 (0, 0))) #[] 0 HB55.out.size (by simp [maxLen]) rfl)
    have BX59 := Lib.hid ((Below.heap_alloc (wc.drew.alloc (.cells #[.string ⟨#[97]⟩, .slice (some ⟨g1, 0, none⟩) q c1] 39 (0, 0))) (.cells #[] 39 (0, 0)) _ (Array.getElem?_eq_some_iff.1 BX56.out).1).trans BX56.out)
    refine hK.out _ _ ?_ (fun hHeld => ?_)
    · exact ⟨keep1 HB57.out d1, keep1 HB57.out e0, keep1 HB57.out e1⟩
    clear hK K
    (try simp only [Act.put, List.setIfInBounds_toArray, List.set_cons_zero, List.set_cons_succ])
    refine wpAnyH_ready (rs := [5]) (by kernel_rfl) (by simp) ?_
    refine AllReadyH.cons (o := { dst := some 24, op := Op.call { callee := Callee.builtin Builtin.append, args := #[Operand.tmp 19, Operand.tmp 23], argTypes := #[37, 37] }, type := 37, pos := "l8_faces.go:128", after := #[{ on := 0, ground := Ground.data }, { on := 4, ground := Ground.data }], guard := none }) rfl (fun K hK => ?_) AllReadyH.nil
    refine step_append_any _ (by rfl) _ _ 37 (by rfl) wc.heap.size 39 i0 (.agg #[.string ⟨#[]⟩, .slice none 0 0]) 2 40 Try.underlying37 hi0 hzz hzs hzb rfl (by decide) (.slice (some ⟨wc.heap.size + 1, 0, none⟩) 0 0) 0 [] (by rfl) OW58.out (by simp) ⟨g, 0, none⟩ p cap xsA (by rfl) XA1.out (fun j u hu => keep1 HB57.out (XA2w.out j u hu)) XA3.out p xsA (by omega) (by rfl) (by unfold maxLen; omega) (by omega) HB57.out.size ?_
    intro g60 c60 w60 hown60 hgr60
    have HB61 := Lib.hid (HB57.out.grown hgr60 HB57.out.size (fun q e => (OW58.out.lt q e).1))
    have OW62 := Lib.hid hown60
    have BX63 := Lib.hid ((hgr60.block _ (Array.getElem?_eq_some_iff.1 BX59.out).1 (fun e => by simp [Value.ownBlock] at e)).trans BX59.out)
    clear hown60 hgr60
    refine hK.out _ _ ?_ (fun hHeld => ?_)
    · exact ⟨keep1 HB61.out d1, keep1 HB61.out e0, keep1 HB61.out e1⟩
    clear hK K
    (try simp only [Act.put, List.setIfInBounds_toArray, List.set_cons_zero, List.set_cons_succ])
    refine wpAnyH_ready (rs := [8]) (by kernel_rfl) (by simp) ?_
    refine AllReadyH.cons (o := { dst := some 27, op := Op.call { callee := Callee.builtin Builtin.append, args := #[Operand.tmp 24, Operand.tmp 26], argTypes := #[37, 37] }, type := 37, pos := "l8_faces.go:128", after := #[{ on := 5, ground := Ground.data }, { on := 7, ground := Ground.data }, { on := 5, ground := Ground.chain }], guard := none }) rfl (fun K hK => ?_) AllReadyH.nil
    refine step_append_any _ (by rfl) _ _ 37 (by rfl) wc.heap.size 39 i0 (.agg #[.string ⟨#[]⟩, .slice none 0 0]) 2 40 Try.underlying37 hi0 hzz hzs hzb rfl (by decide) (.slice (some ⟨g60, 0, none⟩) p c60) p xsA (by rfl) OW62.out (by simp) ⟨wc.heap.size, 0, none⟩ 1 1 [.string ⟨#[97]⟩, .slice (some ⟨g1, 0, none⟩) q c1] (by rfl) (by rfl) (World.news_of_block BX63.out) (by simp [Value.oneCell']) (p + 1) (xsA ++ [.string ⟨#[97]⟩, .slice (some ⟨g1, 0, none⟩) q c1]) (by rfl) (by rfl) (by unfold maxLen; omega) (by omega) HB61.out.size ?_
    intro g64 c64 w64 hown64 hgr64
    have HB65 := Lib.hid (HB61.out.grown hgr64 HB61.out.size (fun q e => (OW62.out.lt q e).1))
    have OW66 := Lib.hid hown64
    clear hown64 hgr64
    refine hK.out _ _ ?_ (fun hHeld => ?_)
    · exact ⟨keep1 HB65.out d1, keep1 HB65.out e0, keep1 HB65.out e1⟩
    clear hK K
    (try simp only [Act.put, List.setIfInBounds_toArray, List.set_cons_zero, List.set_cons_succ])
    refine wpAnyH_take (i := 9) (oi := { dst := some 8, op := Op.assign (Operand.tmp 27), type := 37, pos := "l8_faces.go:128", after := #[{ on := 8, ground := Ground.data }, { on := 8, ground := Ground.chain }, { on := 0, ground := Ground.phase }, { on := 1, ground := Ground.phase }, { on := 2, ground := Ground.phase }, { on := 3, ground := Ground.phase }, { on := 4, ground := Ground.phase }, { on := 5, ground := Ground.phase }, { on := 6, ground := Ground.phase }, { on := 7, ground := Ground.phase }, { on := 8, ground := Ground.phase }], guard := none }) (v := ?_) rfl (by kernel_rfl) (by kernel_rfl) (by kernel_rfl) (fun _ _ _ h => h) (Or.inl ⟨by rfl, ?_⟩) (by assumption) ?_
    rotate_left
    · (intro w hSw; (try dsimp only at hSw); go_simp <;> with_reducible rfl)
    (try simp only [Act.put, List.setIfInBounds_toArray, List.set_cons_zero, List.set_cons_succ])
    refine wpAnyH_done (by kernel_rfl) ?_ _
    have HX7 := Lib.hid ((HB65.out.block _ (by omega : w.heap.size + 1 < wc.heap.size)).trans HX6.out)
    have d2 := keep1 HB65.out d1
    obtain ⟨f0, f1, f2, f3⟩ := two_cells HX7.out
    go_wp2_with (at_builtin; refine wpList_append_own_at _ rfl _ _ 37 rfl wc.heap.size 39 i0 (.agg #[.string ⟨#[]⟩, .slice none 0 0]) 2 40 Try.underlying37 hi0 hzz hzs hzb rfl (by decide) (.slice (some ⟨g64, 0, none⟩) (p + 1) c64) (p + 1) (xsA ++ [.string ⟨#[97]⟩, .slice (some ⟨g1, 0, none⟩) q c1]) rfl OW66.out ⟨g, (p + q) * 2, none⟩ (n - (p + q)) (cap - (p + q)) xsC rfl XC1.out (fun j u hu => keep1 HB65.out (XC2w.out j u hu)) XC3.out (by unfold maxLen; omega) (by omega) HB65.out.size ?_; intro v5 w5 hown5 hgr5 hnil5 hat5; obtain ⟨g5, c5, rfl, hc5, _, _⟩ := owns_some hown5 (fun e => by have := hnil5.1 e; simp at this); have HB5 := Lib.hid (HB65.out.grown hgr5 HB65.out.size (fun q e => (OW66.out.lt q e).1)); have HO5 := Lib.hid hown5; have HC5 := Lib.hid hc5; have HX8 := Lib.hid ((HB5.out.block _ (by omega : w.heap.size + 1 < wc.heap.size)).trans HX6.out); obtain ⟨k0, k1, k2, k3⟩ := two_cells HX8.out; clear hown5 hgr5 hnil5 hat5 hc5)
    refine bodyPost_ret (v := .agg #[.string ⟨#[97]⟩, .slice (some ⟨g5, 0, none⟩) (p + 1 + (n - (p + q))) c5]) (by simp [results, Try.results48, go_sem, k0, k1]) rfl ?_
    exact FIN.out g5 c5 w5 HO5.out HB5.out HC5.out

end Go.Proofs.Ytbbkaephlojalaa
