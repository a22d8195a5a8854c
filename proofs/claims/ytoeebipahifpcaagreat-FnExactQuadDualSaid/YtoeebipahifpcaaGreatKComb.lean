/- Merged out of: XSortPt, XComb. -/
import Derived.Test.YtoeebipahifpcaaGreatSumRI
import Derived.Test.YtoeebipahifpcaaGreatShelf
import Derived.Shelf.SlSortCmp.WholeK
import Derived.Shelf.SlSortCmp.NoneTotal
import Derived.Laws.EntriesVeiled
import Derived.Deep.RegionHeld3
import Derived.Deep.CutRange
import Derived.Deep.CutBlock
section
/- The library's sort at the parts of a combination: what stands in the row behind it. -/
namespace Go.Proofs.YtoeebipahifpcaaGreat
open Go.RowKit Go.Sort

/-- A part, and the values in which its tree stands. -/
structure PtD where
  c : Int
  t : T
  x : Value
  y : Value
  z : Value

def PtD.ok (w : World) (P : Nat → Prop) (q : PtD) : Prop := q.t.wf ∧ q.t.leaves ≤ 1000 ∧ q.t.nodes ≤ 1000 ∧ RkI w P q.t q.x q.y q.z

def encPt {w : World} {P : Nat → Prop} (q : {q : PtD // q.ok w P}) : List Value := [.int .i64 q.1.c, q.1.x, q.1.y, q.1.z]
def cfPt {w : World} {P : Nat → Prop} (p q : {q : PtD // q.ok w P}) : Int := ordT q.1.t p.1.t

theorem encPt_one {w : World} {P : Nat → Prop} (q : {q : PtD // q.ok w P}) : ∀ v ∈ encPt q, v.oneCell' = true :=
  tmI.one (w := w) (P := P) (a := (q.1.c, q.1.t)) ⟨_, _, _, rfl, q.2.1, q.2.2.2.2⟩

theorem ltPt {w : World} {P : Nat → Prop} (p q : {q : PtD // q.ok w P}) : ltOf (cfPt (w := w) (P := P)) p q = decide (ordT q.1.t p.1.t < 0) := rfl

theorem swoPt {w : World} {P : Nat → Prop} : SWO (ltOf (cfPt (w := w) (P := P))) where
  irrefl x := by rw [ltPt, isCmp_ordT.self]; rfl
  trans x y z h1 h2 := by
    rw [ltPt] at h1 h2 ⊢
    have e1 := of_decide_eq_true h1
    have e2 := of_decide_eq_true h2
    exact decide_eq_true (isCmp_ordT.lt_le e2 (by omega))
  ntrans x y z h1 h2 := by
    rw [ltPt] at h1 h2 ⊢
    have e1 := of_decide_eq_false h1
    have e2 := of_decide_eq_false h2
    have := isCmp_ordT.ge_ge (a := z.1.t) (b := y.1.t) (d := x.1.t) (by omega) (by omega)
    exact decide_eq_false (by omega)

/-- What was readable outside of the row is so in every world that the sort passes through. -/
theorem keeps_sort {α : Type} [Inhabited α] (enc : α → List Value) (k : Nat) (w : World) (blk off m : Nat) (dk : Array α) (os : Array Obj) : Keeps (fun b => b ≠ blk) w (sortWorldK enc k w blk off m dk os) := fun a v ha hv => by
  have h1 := World.block_lt_of_cell? w a hv
  have h2 : (putRowK enc k (Sort.ahead w m) blk off dk).cell? a = some v := by rw [cell?_putRowK_other _ _ _ _ _ _ _ ha]; exact hv
  have h3 := World.block_lt_of_cell? _ a h2
  unfold sortWorldK
  rw [World.cell?_of_block (w := putRowK enc k (Sort.ahead w m) blk off dk)]
  · exact h2
  · show ((putRowK enc k (Sort.ahead w m) blk off dk).heap ++ os)[a.block]? = _
    rw [Array.getElem?_append_left h3]

set_option maxRecDepth 100000 in
set_option maxHeartbeats 1000000 in
/-- The closure that the sort is handed: it compares two parts by what was captured. -/
theorem closurePt_any (p q : PtD) (P : Nat → Prop) (B : Nat) (W : World) (hp : p.ok W P) (hq : q.ok W P) (hc : W.cell? ⟨B, 0, none⟩ = some (.func (.func 66) #[] #[])) :
    Calls Tryz.prog 79 #[.agg #[.int .i64 p.c, p.x, p.y, p.z], .agg #[.int .i64 q.c, q.x, q.y, q.z], .pointer (some ⟨B, 0, none⟩)] W (AnsG (.int .i64 (ordT q.t p.t)) W) := by
  obtain ⟨c, t, x, y, z⟩ := p
  obtain ⟨c', t', x', y', z'⟩ := q
  obtain ⟨hw, hl, hn, hr⟩ := hp
  obtain ⟨hw', hl', hn', hr'⟩ := hq
  simp only at hw hl hn hr hw' hl' hn' hr' ⊢
  have HD := Lib.hid (fun (W' : World) (hb : Go.RowKit.Below W.heap.size W W') => descending_grew t t' P x y z x' y' z' W' hl hl' (hr.below hw hb) (hr'.below hw' hb))
  have HC := Lib.hid hc
  have HQ : Hid (Grew W ((W.alloc (.cells #[.int .i64 c, x, y, z] 120 (0, 0))).alloc (.cells #[.int .i64 c', x', y', z'] 120 (0, 0)))) := Lib.hid (((Grew.refl _).alloc _).alloc _)
  have hc2 := keep1 HQ.out.below hc
  obtain ⟨r, hr0⟩ : ∃ r, r = ordT t' t := ⟨_, rfl⟩
  rw [← hr0] at HD ⊢
  obtain ⟨ty, a, g, wc, rfl, rfl, rfl, _⟩ := hr
  obtain ⟨ty', a', g', wc', rfl, rfl, rfl, _⟩ := hr'
  clear hc hr0
  go_enter Tryz.func79, Tryz.ntmps79
  go_wp2_with fail
  refine (HD.out _ HQ.out.below).mono ?_
  rintro e w1 ⟨rfl, hG⟩
  go_wp2_with fail
  go_ret
  exact ⟨rfl, HQ.out.trans hG⟩

theorem grown_sort {α : Type} [Inhabited α] (enc : α → List Value) (k : Nat) (w : World) (blk off m : Nat) (dk : Array α) (os : Array Obj) : w.grownBy (sortWorldK enc k w blk off m dk os) (some blk) := by
  have hh : ∀ i, i ≠ blk → (putRowK enc k (Sort.ahead w m) blk off dk).heap[i]? = w.heap[i]? := fun i hi => by
    show ((Sort.ahead w m).heap.modify blk _)[i]? = _
    rw [Array.getElem?_modify, if_neg (fun e => hi e.symm)]
    rfl
  have hs : (putRowK enc k (Sort.ahead w m) blk off dk).heap.size = w.heap.size := by
    show ((Sort.ahead w m).heap.modify blk _).size = _
    rw [Array.size_modify]; rfl
  refine ⟨rfl, rfl, rfl, ?_, fun i hi hn => ?_⟩
  · show w.heap.size ≤ ((putRowK enc k (Sort.ahead w m) blk off dk).heap ++ os).size
    rw [Array.size_append, hs]; omega
  · show ((putRowK enc k (Sort.ahead w m) blk off dk).heap ++ os)[i]? = _
    rw [Array.getElem?_append_left (by rw [hs]; exact hi)]
    exact hh i (fun e => hn (by rw [e]))

/-- What the sort leaves: the parts, none behind a greater one. -/
def SortPost (Q : Nat → Prop) (ps : List Tm) (blk : Nat) (w : World) (e : Ending) (w' : World) : Prop :=
  e = .returned (.tuple #[]) ∧ w.grownBy w' (some blk) ∧ ∃ qs : List Tm, qs.Perm ps ∧ (∀ i j (hi : i < qs.length) (hj : j < qs.length), i < j → 0 ≤ ordT (qs[i]).2 (qs[j]).2) ∧
    ∀ k (h : k < qs.length), ∃ x y z, w'.cell? ⟨blk, k * 4, none⟩ = some (.int .i64 (qs[k]).1) ∧ w'.cell? ⟨blk, k * 4 + 1, none⟩ = some x ∧ w'.cell? ⟨blk, k * 4 + 2, none⟩ = some y ∧ w'.cell? ⟨blk, k * 4 + 3, none⟩ = some z ∧ (qs[k]).2.wf ∧ RkI w' (fun b => b ≠ blk ∧ Q b) (qs[k]).2 x y z

theorem sortPts_any (Q : Nat → Prop) (ps : List Tm) (n : Nat) (hn : n = ps.length) (blk cap B base : Nat) (xs : List Value) (w : World) (hrow : Row (tmI.inn Q) 120 base ps (.slice (some ⟨blk, 0, none⟩) n cap) xs w) (hps : ∀ p ∈ ps, p.2.leaves ≤ 1000 ∧ p.2.nodes ≤ 1000)
    (hB : B ≠ blk) (hc : w.cell? ⟨B, 0, none⟩ = some (.func (.func 66) #[] #[])) (hn2 : n ≤ 100000) :
    Calls Tryz.prog 78 #[.slice (some ⟨blk, 0, none⟩) n cap, .func (.func 79) #[] #[.pointer (some ⟨B, 0, none⟩)]] w (SortPost Q ps blk w) := by
  rcases Nat.eq_zero_or_pos n with h0 | h0
  · subst h0
    have hcon := AnyF.slices_SortFunc_none Tryz.sortPt (some ⟨blk, 0, none⟩) cap (.func (.func 79) #[] #[.pointer (some ⟨B, 0, none⟩)]) w
    change Calls Tryz.prog 78 _ _ _ at hcon
    have hp : ps = [] := List.length_eq_zero_iff.1 hn.symm
    subst hp
    exact hcon.mono fun e w' ⟨he, hw⟩ => by
      subst hw
      exact ⟨he, grownBy_refl _ _, [], List.Perm.refl _, fun i j hi => by simp at hi, fun k h => by simp at h⟩
  · have hxl := hrow.own.1
    have hblk : ∃ cur, w.heap[blk]? = some (.cells cur 120 (0, 0)) := by
      rcases hrow.own.2 with ⟨e, _⟩ | ⟨g', cap', cur, e, _, hg, _⟩
      · cases e
      · simp only [Value.slice.injEq, Option.some.injEq, Addr.mk.injEq] at e
        obtain ⟨⟨rfl, _⟩, _⟩ := e
        exact ⟨cur, hg⟩
    obtain ⟨cur, hcur⟩ := hblk
    have hlt : blk < w.heap.size := (Array.getElem?_eq_some_iff.1 hcur).1
    have hex : ∀ k (h : k < n), ∃ q : {q : PtD // q.ok w (fun b => b ≠ blk ∧ Q b)}, q.1.c = (ps[k]'(by omega)).1 ∧ q.1.t = (ps[k]'(by omega)).2 ∧ ∀ j, j < 4 → w.cell? ⟨blk, k * 4 + j, none⟩ = (encPt q)[j]? := fun k h => by
      obtain ⟨cs, h1, x, y, z, rfl, hw, hr⟩ := hrow.reps k (by omega)
      have hp := hps (ps[k]'(by omega)) (List.getElem_mem _)
      refine ⟨⟨⟨(ps[k]'(by omega)).1, (ps[k]'(by omega)).2, x, y, z⟩, hw, hp.1, hp.2, hr.keep hw (fun _ _ _ h => h) (fun b hb _ => ⟨fun e => hb.1 (by rw [e]; rfl), hb.2⟩)⟩, rfl, rfl, fun j hj => ?_⟩
      have e1 := h1 j hj
      have hk4 : k * 4 + j < xs.length := by rw [hxl]; show k * 4 + j < ps.length * 4; omega
      have e2 := hrow.own.cells (g := blk) rfl (k * 4 + j) (xs[k * 4 + j]'hk4) (by rw [List.getElem?_eq_getElem])
      have e3 : (⟨blk, 0, none⟩ : Addr).add (k * 4 + j) = ⟨blk, k * 4 + j, none⟩ := by unfold Addr.add; split <;> simp_all
      rw [e3] at e2
      rw [e2]
      have e4 : xs[k * 4 + j]? = some (xs[k * 4 + j]'hk4) := List.getElem?_eq_getElem hk4
      rw [← e4]; exact e1
    have inh : Inhabited {q : PtD // q.ok w (fun b => b ≠ blk ∧ Q b)} := ⟨Classical.choose (hex 0 h0)⟩
    obtain ⟨d, hds, hdk⟩ : ∃ d : Array {q : PtD // q.ok w (fun b => b ≠ blk ∧ Q b)}, d.size = n ∧ ∀ k (h : k < n), d[k]! = Classical.choose (hex k h) := by
      refine ⟨Array.ofFn (fun k : Fin n => Classical.choose (hex k.1 k.2)), by simp, fun k h => ?_⟩
      rw [getElem!_pos _ k (by simpa using h)]
      simp
    have hdp : ∀ k (h : k < n), (d[k]!).1.c = (ps[k]'(by omega)).1 ∧ (d[k]!).1.t = (ps[k]'(by omega)).2 ∧ ∀ j, j < 4 → w.cell? ⟨blk, k * 4 + j, none⟩ = (encPt d[k]!)[j]? := fun k h => by
      rw [hdk k h]; exact Classical.choose_spec (hex k h)
    have hk4 : ∀ q : {q : PtD // q.ok w (fun b => b ≠ blk ∧ Q b)}, (encPt q).length = 4 := fun _ => rfl
    have hH : HoldsK (encPt (w := w) (P := fun b => b ≠ blk ∧ Q b)) 4 w blk 0 d := fun j hj => by
      rw [size_flatK, hds] at hj
      have h1 : j / 4 < n := by omega
      have h2 : j % 4 < 4 := by omega
      have h3 := (hdp (j / 4) h1).2.2 (j % 4) h2
      have e : j / 4 * 4 + j % 4 = j := by omega
      rw [e] at h3
      refine ⟨?_, Lib.frozen_of_heap hcur _⟩
      rw [Nat.zero_add, h3, get_flatK _ _ _ _ (by rw [hds]; exact hj)]
      rw [List.getElem?_eq_getElem (by rw [hk4]; exact h2), getElem!_pos (encPt d[j / 4]!) (j % 4) (by rw [hk4]; exact h2)]
      rfl
    have hmap : d.toList.map (fun q => ((q.1.c, q.1.t) : Tm)) = ps := by
      apply List.ext_getElem
      · simp; omega
      · intro k h1 h2
        have hk : k < n := by omega
        have := hdp k hk
        rw [getElem!_pos d k (by omega)] at this
        simp only [List.getElem_map, Array.getElem_toList]
        exact Prod.ext this.1 this.2.1
    have eg : ∀ args w, (callFunc 79 args).run Tryz.prog w = .ok (.enter 79 args) w := enters_of Tryz.func79 (by kernel_rfl) rfl
    have hcmp : CmpLays Tryz.prog 79 #[.pointer (some ⟨B, 0, none⟩)] encPt 4 cfPt blk 0 d.size w := fun m os dk hdk2 p q => by
      have hkeep := keeps_sort (encPt (w := w) (P := fun b => b ≠ blk ∧ Q b)) 4 w blk 0 m dk os
      have hok : ∀ r : {q : PtD // q.ok w (fun b => b ≠ blk ∧ Q b)}, r.1.ok (sortWorldK encPt 4 w blk 0 m dk os) (fun b => b ≠ blk ∧ Q b) := fun r => ⟨r.2.1, r.2.2.1, r.2.2.2.1, r.2.2.2.2.keep r.2.1 (Keeps.mono hkeep (fun _ h => h.1)) (fun _ h _ => h)⟩
      exact closurePt_any p.1 q.1 _ B _ (hok p) (hok q) (hkeep _ _ hB hc)
    have hcon := AnyQ.slices_SortFunc Tryz.sortPt 4 Tryz.isAgg120 Tryz.sizeOf120 encPt hk4 encPt_one cfPt swoPt 79 #[.pointer (some ⟨B, 0, none⟩)] blk 0 cap d w eg hcmp hH hlt (by omega)
    change Calls Tryz.prog 78 _ _ _ at hcon
    rw [hds] at hcon
    refine hcon.mono fun e w' ⟨he, d', m, os, hperm, hsorted, hw'⟩ => ?_
    subst hw'
    have hd's : d'.size = n := by rw [hperm.1, hds]
    have hH' := holdsK_sortWorldK_c encPt 4 w blk 0 d d' m os hH hlt (by omega)
    refine ⟨he, grown_sort _ _ _ _ _ _ _ _, d'.toList.map (fun q => ((q.1.c, q.1.t) : Tm)), ?_, ?_, ?_⟩
    · have h1 := hperm.2.2
      rw [Array.extract_eq_self_of_le (by omega), Array.extract_eq_self_of_le (by omega)] at h1
      have h2 := h1.map (fun q => ((q.1.c, q.1.t) : Tm))
      rw [hmap] at h2; exact h2
    · intro i j hi hj hij
      simp at hi hj
      have h1 := hsorted i j (by omega) hij (by omega)
      rw [ltPt, getElem!_pos d' i (by omega), getElem!_pos d' j (by omega)] at h1
      have h2 := of_decide_eq_false h1
      simp only [List.getElem_map, Array.getElem_toList]
      omega
    · intro k hk
      simp at hk
      have hc0 := (hH'.cell (i := k) (c := 0) (by omega) (by omega)).1
      have hc1 := (hH'.cell (i := k) (c := 1) (by omega) (by omega)).1
      have hc2 := (hH'.cell (i := k) (c := 2) (by omega) (by omega)).1
      have hc3 := (hH'.cell (i := k) (c := 3) (by omega) (by omega)).1
      rw [Nat.zero_add] at hc0 hc1 hc2 hc3
      rw [getElem!_pos d' k (by omega)] at hc0 hc1 hc2 hc3
      simp only [List.getElem_map, Array.getElem_toList]
      have hok := (d'[k]'(by omega)).2
      exact ⟨_, _, _, hc0, hc1, hc2, hc3, hok.1, hok.2.2.2.keep hok.1 (Keeps.mono (keeps_sort encPt 4 w blk 0 m d' os) (fun _ h => h.1)) (fun _ h _ => h)⟩

end Go.Proofs.YtoeebipahifpcaaGreat
end
section
/- The program brings parts into one form. -/
namespace Go.Proofs.YtoeebipahifpcaaGreat
open Go.RowKit

theorem modPrime_any (x : Int) (w : World) (_h1 : -1000000000000 ≤ x) (_h2 : x ≤ 1000000000000) :
    Calls Tryz.prog 52 #[.int .i64 x] w fun e w' => e = .returned (.int .i64 (x % 101)) ∧ w = w' := by
  have HV : Hid ((x.tmod 101 + 101) % 101 = x % 101) := Lib.hid (by
    have h3 := Int.tmod_add_mul_tdiv x 101
    have h4 := Int.tmod_lt_of_pos x (show (0 : Int) < 101 by omega)
    have h5 := Int.lt_tmod_of_pos x (show (0 : Int) < 101 by omega)
    omega)
  have hb1 := Int.tmod_lt_of_pos x (show (0 : Int) < 101 by omega)
  have hb2 := Int.lt_tmod_of_pos x (show (0 : Int) < 101 by omega)
  go_enter Tryz.func52, Tryz.ntmps52
  go_wp2_with fail
  go_ret
  exact ⟨by rw [← HV.out]; rfl, rfl⟩

/-- A copy of parts, new. -/
def ClonePost (P : Nat → Prop) (ps : List Tm) (w : World) (e : Ending) (w' : World) : Prop :=
  Below w.heap.size w w' ∧ ∃ g cap xs, e = .returned (.slice (some ⟨g, 0, none⟩) ps.length cap) ∧ w.heap.size ≤ g ∧ Row (tmI.inn P) 120 w.heap.size ps (.slice (some ⟨g, 0, none⟩) ps.length cap) xs w'

set_option maxRecDepth 100000 in
set_option maxHeartbeats 1000000 in
theorem clonePts_any (P : Nat → Prop) (ps : List Tm) (n : Nat) (hn : n = ps.length) (g cap : Nat) (w : World) (hn2 : n ≤ 100000) (hr : Rd tmI w P (some ⟨g, 0, none⟩) ps) :
    Calls Tryz.prog 77 #[.slice (some ⟨g, 0, none⟩) n cap] w (ClonePost P ps w) := by
  obtain ⟨i0, hi0, hzz, hzs, hzb⟩ := info_parts infoPt
  have hrW := hr.weak (P' := fun b => b < w.heap.size ∧ P b) (by decide) (fun _ h hlt => ⟨hlt, h⟩)
  obtain ⟨c1, c2, c3⟩ := hrW.cells (by decide) 0 n (by omega)
  rw [Nat.zero_mul] at c1 c2 c3
  obtain ⟨news, hnews⟩ : ∃ news, news = rowCells w g 0 (n * 4) := ⟨_, rfl⟩
  have HNL : Hid (news.length = n * 4) := Lib.hid (by rw [hnews, rowCells_length])
  have HNC : Hid (∀ j u, news[j]? = some u → (w.alloc (.cells #[] 120)).cell? ((⟨g, 0, none⟩ : Addr).add j) = some u) := Lib.hid (fun j u hu => by
    have e : (⟨g, 0, none⟩ : Addr).add j = ⟨g, j, none⟩ := by unfold Addr.add; split <;> simp_all
    rw [hnews] at hu
    have := c1 j u hu
    rw [Nat.zero_add] at this
    rw [e]; exact keep1 ((Below.refl _ _).alloc (Nat.le_refl _) _) this)
  have HN1 : Hid (∀ u ∈ news, u.oneCell' = true) := Lib.hid (by rw [hnews]; exact c2)
  have HN3 : Hid (∀ q (hq : q < ps.length), ∃ cs, (∀ j, j < 4 → news[q * 4 + j]? = cs[j]?) ∧ tmI.R w (fun b => b < w.heap.size ∧ P b) ps[q] cs) := Lib.hid (fun q hq => by
    obtain ⟨cs, e1, e2⟩ := c3 q (by omega)
    refine ⟨cs, by rw [hnews]; exact e1, ?_⟩
    simp only [Nat.zero_add] at e2
    exact e2)
  have OWN0 : Hid ((w.alloc (.cells #[] 120)).ownsRow w.heap.size 120 4 (.slice (some ⟨w.heap.size, 0, none⟩) 0 0) 0 []) := Lib.hid (World.ownsRow_made w #[] 0 (Nat.le_refl _) (by simp [maxLen]) rfl)
  have hnil : (binOp .eql 104 (.slice (some ⟨g, 0, none⟩) n cap) (.slice none 0 0)).run Tryz.prog w = .ok (.bool false) w := by
    simp only [binOp]
    simp [Op.equal, Op.maxDepth, Lib.run_equalIn_slice_nil w 9999 104 120 (some ⟨g, 0, none⟩) n cap 0 0 Tryz.underlying104]
  have HNN := Lib.hid hn
  clear hr hrW c1 c2 c3 hnews hn
  go_enter Tryz.func77, Tryz.ntmps77
  go_wp2_with (at_builtin; refine wpList_append_own_at _ rfl _ _ 104 rfl w.heap.size 120 i0 (.agg #[.int .i64 0, .nilIface, .slice none 0 0, .string ⟨#[]⟩]) 4 64 Tryz.underlying104 hi0 hzz hzs hzb rfl (by decide) (.slice (some ⟨w.heap.size, 0, none⟩) 0 0) 0 [] rfl OWN0.out ⟨g, 0, none⟩ n cap news rfl HNL.out HNC.out HN1.out (by unfold maxLen; omega) (by omega) (by simp) ?_; intro v1 w2 hown2 hg2 hnil2 hat2)
  rw [Nat.zero_add, List.nil_append] at hown2
  obtain ⟨g1, q1, rfl, hq1, hq2, hg1b⟩ := owns_some hown2 (fun e => by have := hnil2.1 e; simp at this)
  have HB := Lib.hid (((Below.refl w.heap.size w).alloc (Nat.le_refl _) (.cells #[] 120)).grown hg2 (by simp) (fun q e => by simp [Value.ownBlock] at e; omega))
  have HOWN := Lib.hid hown2
  clear hown2 hg2 hnil2 hat2
  go_wp2_with fail
  go_ret
  have HR := Row.of_old (E := tmI.inn P) HB.out (by rw [← HNN.out]; exact HOWN.out) (Nat.le_refl _) HN3.out
  exact ⟨HB.out, g1, q1, news, by rw [← HNN.out]; rfl, hg1b, by rw [← HNN.out]; exact HR⟩

/-- What 'combine' answers. -/
def CombPost (P : Nat → Prop) (ps : List Tm) (w : World) (e : Ending) (w' : World) : Prop :=
  Below w.heap.size w w' ∧ ∃ g c, e = .returned (.agg #[.func (.func 66) #[] #[], .slice (some ⟨g, 0, none⟩) (canon ps).length c]) ∧ Rd tmI w' (fun b => P b ∨ w.heap.size ≤ b) (some ⟨g, 0, none⟩) (canon ps)

set_option maxRecDepth 100000 in
set_option maxHeartbeats 4000000 in
theorem combine_any (P : Nat → Prop) (ps : List Tm) (n : Nat) (hn : n = ps.length) (g cap : Nat) (w : World) (hn2 : n ≤ 100000) (hps : ∀ p ∈ ps, p.2.wf ∧ p.2.leaves ≤ 1000 ∧ p.2.nodes ≤ 1000 ∧ -1000000 ≤ p.1 ∧ p.1 ≤ 1000000) (hr : Rd tmI w P (some ⟨g, 0, none⟩) ps) :
    Calls Tryz.prog 65 #[.func (.func 66) #[] #[], .slice (some ⟨g, 0, none⟩) n cap] w (CombPost P ps w) := by
  obtain ⟨i0, hi0, hzz, hzs, hzb⟩ := info_parts infoPt
  have HPS := Lib.hid hps
  have HCL := Lib.hid (fun (W : World) (hb : Below w.heap.size w W) => clonePts_any (fun b => b < w.heap.size ∧ P b) ps n hn g cap W hn2 ((hr.weak (P' := fun b => b < w.heap.size ∧ P b) (by decide) (fun _ h h' => ⟨h', h⟩)).below (by decide) hb))
  have HNN := Lib.hid hn
  clear hps hr hn
  go_enter Tryz.func65, Tryz.ntmps65
  go_wp2_with fail
  refine (HCL.out _ (((Below.refl _ _).alloc (Nat.le_refl _) _).alloc (by simp) _)).mono ?_
  rintro e w1 ⟨hB1, g1, q1, xs1, rfl, hg1, hrow⟩
  have hBw1 : Below w.heap.size w w1 := (((Below.refl _ _).alloc (Nat.le_refl _) _).alloc (by simp) _).trans (hB1.mono (by simp; omega))
  have hX1 : w1.heap[w.heap.size]? = some (.cells #[(.func (.func 66) #[] #[])] 121 (0, 0)) := by
    rw [hB1.block _ (by simp; omega), Below.heap_alloc _ _ _ (by simp)]; exact heap_alloc_new w _
  have hR1 : w1.heap[w.heap.size + 1]? = some (.cells #[.nilFunc, .slice none 0 0] 123 (0, 0)) := by
    rw [hB1.block _ (by simp)]
    have := heap_alloc_new (w.alloc (.cells #[(.func (.func 66) #[] #[])] 121 (0, 0))) (.cells #[.nilFunc, .slice none 0 0] 123 (0, 0))
    simpa using this
  have hg1' : w.heap.size + 1 + 1 ≤ g1 := by simpa using hg1
  have hsz1 : w.heap.size + 1 + 1 ≤ w1.heap.size := by have := hB1.size; simpa using this
  have HSORT := sortPts_any (fun b => b < w.heap.size ∧ P b) ps n HNN.out g1 q1 w.heap.size _ xs1 w1 (by rw [HNN.out]; exact hrow) (fun p hp => ⟨(HPS.out p hp).2.1, (HPS.out p hp).2.2.1⟩) (by omega) (by rw [Lib.cell_of_heap hX1]; rfl) hn2
  have hg1lt : g1 < w1.heap.size ∨ ps = [] := by
    rcases Nat.eq_zero_or_pos ps.length with h | h
    · exact .inr (List.length_eq_zero_iff.1 h)
    · obtain ⟨g', c', e, _, hlt⟩ := hrow.own.form h
      simp only [Value.slice.injEq, Option.some.injEq, Addr.mk.injEq] at e
      obtain ⟨⟨rfl, _⟩, _⟩ := e
      exact .inl hlt
  have HSORT := Lib.hid HSORT
  have HBW1 := Lib.hid hBw1
  have HX1 := Lib.hid hX1
  have HR1 := Lib.hid hR1
  rw [← HNN.out]
  clear hB1 hBw1 hX1 hR1 hrow hg1 hg1lt
  go_wp2_with fail
  refine HSORT.out.mono ?_
  rintro e w2 ⟨rfl, hg2, qs, hperm, hsort, hcells⟩
  have HQL : Hid (n = qs.length) := Lib.hid (by rw [HNN.out]; exact hperm.length_eq.symm)
  have HPERM := Lib.hid hperm
  have HSRT := Lib.hid hsort
  have HQS : Hid (∀ p ∈ qs, p.2.wf ∧ p.2.leaves ≤ 1000 ∧ p.2.nodes ≤ 1000 ∧ -1000000 ≤ p.1 ∧ p.1 ≤ 1000000) := Lib.hid (fun p hp => HPS.out p (hperm.mem_iff.1 hp))
  have HCELL : Hid (∀ (W : World), Below w2.heap.size w2 W → ∀ k (h : k < qs.length), ∃ x y z, W.cell? ⟨g1, k * 4, none⟩ = some (.int .i64 (qs[k]).1) ∧ W.cell? ⟨g1, k * 4 + 1, none⟩ = some x ∧ W.cell? ⟨g1, k * 4 + 2, none⟩ = some y ∧ W.cell? ⟨g1, k * 4 + 3, none⟩ = some z ∧ (qs[k]).2.wf ∧ RkI W (fun b => b < w.heap.size ∧ P b) (qs[k]).2 x y z) := Lib.hid (fun W hb k h => by
    obtain ⟨x, y, z, c0, c1, c2, c3, hw, hr⟩ := hcells k h
    exact ⟨x, y, z, keep1 hb c0, keep1 hb c1, keep1 hb c2, keep1 hb c3, hw, (hr.keep (P' := fun b => b < w.heap.size ∧ P b) hw (fun _ _ _ h => h) (fun _ h _ => h.2)).below hw hb⟩)
  have HX2 : Hid (w2.heap[w.heap.size]? = some (.cells #[(.func (.func 66) #[] #[])] 121 (0, 0))) := Lib.hid ((hg2.block _ (by omega) (fun e => by simp only [Option.some.injEq] at e; omega)).trans HX1.out)
  have HR2 : Hid (w2.heap[w.heap.size + 1]? = some (.cells #[.nilFunc, .slice none 0 0] 123 (0, 0))) := Lib.hid ((hg2.block _ (by omega) (fun e => by simp only [Option.some.injEq] at e; omega)).trans HR1.out)
  have HBW2 : Hid (Below w.heap.size w w2) := Lib.hid (HBW1.out.grown hg2 (by omega) (fun q e => by simp only [Option.some.injEq] at e; omega))
  have hsz2 : w.heap.size + 1 + 1 ≤ w2.heap.size := by have := hg2.size; omega
  clear hg2 hperm hsort hcells
  go_wp2_with fail
  go_loopw [6, 7] (fun ov iv wr => ∃ (K : List Tm) (f : Nat) (va : Option Addr) (vc : Nat) (vs : List Value), f ≤ n ∧ K.length ≤ f ∧ va ≠ none ∧ iv = .int .i64 f ∧ ov = .slice va K.length vc ∧ Grp K (qs.drop f) qs ∧ Row (tmI.inn (fun b => (b < w.heap.size ∧ P b) ∨ w2.heap.size ≤ b)) 120 w2.heap.size K (.slice va K.length vc) vs wr ∧ Below w2.heap.size w2 wr) (fun _ iv _ => n - (intOf iv).toNat)
  case atStart =>
    refine ⟨[], 0, some ⟨w2.heap.size, 0, none⟩, 0, [], Nat.zero_le _, Nat.le_refl _, by simp, rfl, rfl, Grp.start, ?_, (Below.refl _ _).alloc (Nat.le_refl _) _⟩
    exact ⟨World.ownsRow_made w2 #[] 0 (Nat.le_refl _) (by simp [maxLen]) rfl, fun _ h => by simp at h⟩
  case round =>
    obtain ⟨K, f, va, vc, vs, hf, hkf, hva, rfl, rfl, hgrp, hrow, hB⟩ := hrel
    obtain ⟨wo, rfl⟩ : ∃ wo : World, wo = wr := ⟨_, rfl⟩
    have HGRP := Lib.hid hgrp
    have HB := Lib.hid hB
    have HVA := Lib.hid hva
    have HX := Lib.hid ((hB.block _ (by omega)).trans HX2.out)
    have HRB := Lib.hid ((hB.block _ (by omega)).trans HR2.out)
    have hszr : w2.heap.size ≤ wo.heap.size := hB.size
    obtain ⟨kl, hkl⟩ : ∃ kl, kl = K.length := ⟨_, rfl⟩
    have HKL := Lib.hid hkl
    rw [← hkl] at hkf hrow
    have HROW := Lib.hid hrow
    rw [← hkl]
    clear hgrp hrow hva hkl
    by_cases hlt : f < n
    · have hltq : f < qs.length := by rw [← HQL.out]; exact hlt
      obtain ⟨x, y, z, c0', c1', c2', c3', hw, ty, a, gw, wcp, rfl, rfl, rfl, hrep, hgwt, hlies⟩ := HCELL.out wo hB f hltq
      obtain ⟨t, ht⟩ : ∃ t, t = (qs[f]).2 := ⟨_, rfl⟩
      obtain ⟨c0, hc0⟩ : ∃ c0, c0 = (qs[f]).1 := ⟨_, rfl⟩
      have HRK : Hid (RkI wo (fun b => b < w.heap.size ∧ P b) t (.iface ty (.pointer (some a))) (.slice (some ⟨gw, 0, none⟩) (t.paths []).length wcp) (.string ⟨t.text.toArray⟩)) := Lib.hid (by rw [ht]; exact ⟨ty, a, gw, wcp, rfl, rfl, rfl, hrep, hgwt, hlies⟩)
      have HTB := Lib.hid (HQS.out (qs[f]) (List.getElem_mem hltq))
      rw [← ht] at HTB
      rw [← ht] at hw c2' c3'
      rw [← hc0] at c0'
      have HT := Lib.hid ht
      obtain ⟨pl, hpl⟩ : ∃ pl, pl = (t.paths []).length := ⟨_, rfl⟩
      obtain ⟨tx, htx⟩ : ∃ tx, tx = t.text.toArray := ⟨_, rfl⟩
      rw [← hpl] at c2' HRK
      rw [← htx] at c3' HRK
      have f0 : (0 : Int) ≤ (f : Int) := by omega
      clear ht hc0 hpl htx hrep hlies hgwt hB
      go_upto_block 2 with fail
      have HRUN : Hid (∀ (m : Nat) (c : Int), f ≤ m → m ≤ qs.length → 0 ≤ c → c ≤ 100 → (c - cf ((qs.drop f).take (m - f)) t) % 101 = 0 → (∀ i (h : i < qs.length), f ≤ i → i < m → ordT (qs[i]).2 t = 0) → (∀ h : m < qs.length, ordT t (qs[m]).2 ≠ 0) → f < m ∧ Grp (if c = 0 then K else K ++ [(c, t)]) (qs.drop m) qs) := Lib.hid (fun m c hfm hmn hc1 hc2 hcf hrun hex => by
        have hft : ordT t (qs[f]).2 = 0 := by rw [HT.out]; exact isCmp_ordT.self _
        have hfm2 : f < m := by
          rcases Nat.lt_or_ge f m with h | h
          · exact h
          · have e : f = m := by omega
            subst e
            exact absurd hft (hex hltq)
        refine ⟨hfm2, ?_⟩
        have hsplit : qs.drop f = (qs.drop f).take (m - f) ++ qs.drop m := by
          have h1 := List.take_append_drop (m - f) (qs.drop f)
          rw [List.drop_drop, show f + (m - f) = m by omega] at h1
          exact h1.symm
        have hg := HGRP.out
        rw [hsplit] at hg
        refine hg.next (t := t) hw ?_ ?_ ?_ hcf hc1 hc2
        · intro e
          have h1 : ((qs.drop f).take (m - f)).length = m - f := by rw [List.length_take, List.length_drop]; omega
          rw [e] at h1; simp at h1; omega
        · intro p hp
          obtain ⟨i, hi, rfl⟩ := List.getElem_of_mem hp
          rw [List.length_take, List.length_drop] at hi
          rw [List.getElem_take, List.getElem_drop]
          exact hrun (f + i) (by omega) (by omega) (by omega)
        · intro p hp
          obtain ⟨i, hi, rfl⟩ := List.getElem_of_mem hp
          rw [List.length_drop] at hi
          rw [List.getElem_drop]
          have hm : m < qs.length := by omega
          have h1 : 0 ≤ ordT t (qs[m]).2 := by rw [HT.out]; exact HSRT.out f m hltq hm hfm2
          have h2 := hex hm
          rcases Nat.eq_zero_or_pos i with h0 | h0
          · subst h0; simp only [Nat.add_zero]; omega
          · have h3 := HSRT.out m (m + i) hm (by omega) (by omega)
            exact isCmp_ordT.gt_ge (show 0 < ordT t (qs[m]).2 by omega) h3)
      go_cut [7, 9] from 24 to 49 (fun iv cv wx => ∃ (m : Nat) (c : Int), f < m ∧ m ≤ n ∧ iv = .int .i64 m ∧ cv = .int .i64 c ∧ 0 ≤ c ∧ c ≤ 100 ∧ Grp (if c = 0 then K else K ++ [(c, t)]) (qs.drop m) qs ∧ Below (wo.alloc (.cells #[.int .i64 c0, .iface ty (.pointer (some a)), .slice (some ⟨gw, 0, none⟩) pl wcp, .string ⟨tx⟩] 120 (0, 0))).heap.size (wo.alloc (.cells #[.int .i64 c0, .iface ty (.pointer (some a)), .slice (some ⟨gw, 0, none⟩) pl wcp, .string ⟨tx⟩] 120 (0, 0))) wx)
      case first =>
        go_wp2_with fail
        go_loopw [7, 9] (fun iv cv wx => ∃ (m : Nat) (c : Int), f ≤ m ∧ m ≤ n ∧ iv = .int .i64 m ∧ cv = .int .i64 c ∧ 0 ≤ c ∧ c ≤ 100 ∧ (c - cf ((qs.drop f).take (m - f)) t) % 101 = 0 ∧ (∀ i (h : i < qs.length), f ≤ i → i < m → ordT (qs[i]).2 t = 0) ∧ Below (wo.alloc (.cells #[.int .i64 c0, .iface ty (.pointer (some a)), .slice (some ⟨gw, 0, none⟩) pl wcp, .string ⟨tx⟩] 120 (0, 0))).heap.size (wo.alloc (.cells #[.int .i64 c0, .iface ty (.pointer (some a)), .slice (some ⟨gw, 0, none⟩) pl wcp, .string ⟨tx⟩] 120 (0, 0))) wx) (fun iv _ _ => n - (intOf iv).toNat)
        case atStart => exact ⟨f, 0, Nat.le_refl _, by omega, rfl, rfl, by omega, by omega, by simp [cf], fun i _ h1 h2 => by omega, Below.refl _ _⟩
        case round =>
          obtain ⟨m, c, hfm, hmn, rfl, rfl, hc1, hc2, hcf, hrun, hB⟩ := hrel
          have HCF := Lib.hid hcf
          have HRN := Lib.hid hrun
          have HBL := Lib.hid hB
          have hBr : Below wo.heap.size wo wr := ((Below.refl _ _).alloc (Nat.le_refl _) _).trans (hB.mono (by simp))
          have hF : wr.heap[wo.heap.size]? = some (.cells #[.int .i64 c0, .iface ty (.pointer (some a)), .slice (some ⟨gw, 0, none⟩) pl wcp, .string ⟨tx⟩] 120 (0, 0)) := (hB.block _ (by simp)).trans (heap_alloc_new wo _)
          have q1' : wr.cell? ⟨wo.heap.size, 1, none⟩ = some (.iface ty (.pointer (some a))) := by rw [Lib.cell_of_heap hF]; rfl
          have q2' : wr.cell? ⟨wo.heap.size, 2, none⟩ = some (.slice (some ⟨gw, 0, none⟩) pl wcp) := by rw [Lib.cell_of_heap hF]; rfl
          have q3' : wr.cell? ⟨wo.heap.size, 3, none⟩ = some (.string ⟨tx⟩) := by rw [Lib.cell_of_heap hF]; rfl
          have xb : wr.cell? ⟨w.heap.size, 0, none⟩ = some (.func (.func 66) #[] #[]) := by rw [Lib.cell_of_heap ((hBr.block _ (by omega)).trans HX.out)]; rfl
          have hBw : Below w2.heap.size w2 wr := below_step HB.out hBr
          clear hcf hrun hF
          by_cases hlm : m < n
          · have hmq : m < qs.length := by rw [← HQL.out]; exact hlm
            have hd : decide (m < n) = true := decide_eq_true hlm
            have m0 : (0 : Int) ≤ (m : Int) := by omega
            obtain ⟨x, y, z, e0, e1, e2, e3, hmw, hmr⟩ := HCELL.out wr hBw m hmq
            obtain ⟨cm, hcm⟩ : ∃ cm, cm = (qs[m]).1 := ⟨_, rfl⟩
            have hmb := HQS.out (qs[m]) (List.getElem_mem hmq)
            rw [← hcm] at e0 hmb
            have HCM := Lib.hid hcm
            have hcm1 := hmb.2.2.2.1
            have hcm2 := hmb.2.2.2.2
            have hD := fun (W : World) (hb : Below wr.heap.size wr W) => descending_grew (qs[m]).2 t (fun b => b < w.heap.size ∧ P b) x y z (.iface ty (.pointer (some a))) (.slice (some ⟨gw, 0, none⟩) pl wcp) (.string ⟨tx⟩) W hmb.2.1 HTB.out.2.1 (hmr.below hmw hb) ((HRK.out.below hw hBr).below hw hb)
            obtain ⟨r, hr0⟩ : ∃ r, r = ordT t (qs[m]).2 := ⟨_, rfl⟩
            rw [← hr0] at hD
            have HD := Lib.hid hD
            have HRR := Lib.hid hr0
            have HMOD := Lib.hid (fun W => modPrime_any (c + cm) W (by omega) (by omega))
            clear hcm hD hr0 hmr hBr hBw hB
            by_cases hrz : r = 0
            · have HRZ := Lib.hid hrz
              have hb0 : (r == 0) = true := by simp [hrz]
              clear hrz
              go_wp2_with fail
              go_region_held3 (fun w' => w'.cell? ⟨w.heap.size, 0, none⟩ = some (.func (.func 66) #[] #[]) ∧ w'.cell? ⟨wo.heap.size, 1, none⟩ = some (.iface ty (.pointer (some a))) ∧ w'.cell? ⟨wo.heap.size, 2, none⟩ = some (.slice (some ⟨gw, 0, none⟩) pl wcp) ∧ w'.cell? ⟨wo.heap.size, 3, none⟩ = some (.string ⟨tx⟩) ∧ w'.cell? ⟨g1, m * 4 + 1, none⟩ = some x ∧ w'.cell? ⟨g1, m * 4 + 2, none⟩ = some y ∧ w'.cell? ⟨g1, m * 4 + 3, none⟩ = some z)
                (first | exact ⟨xb, q1', q2', q3', e1, e2, e3⟩ | exact ⟨p0, p1, p2, p3, p4, p5, p6⟩)
                (first
                | (go_at_call 66; refine (HD.out _ (Below.refl _ _).drew).mono ?_; rintro e w5 ⟨rfl, hG⟩; have hB5 : Below wr.heap.size wr w5 := (Below.refl _ _).drew.trans hG.below; have p0 := keep1 hB5 xb; have p1 := keep1 hB5 q1'; have p2 := keep1 hB5 q2'; have p3 := keep1 hB5 q3'; have p4 := keep1 hB5 e1; have p5 := keep1 hB5 e2; have p6 := keep1 hB5 e3; have p7 := keep1 hB5 e0; have HC1 := Lib.hid (below_step HBL.out hB5); clear hG hB5))
              all_goals
                have hzr : ordT (qs[m]).2 t = 0 := by have h1 := isCmp_ordT.anti t (qs[m]).2; have h2 := HRR.out; have h3 := HRZ.out; omega
                have HZR := Lib.hid hzr
                obtain ⟨e9, he9⟩ : ∃ e9, e9 = (c + cm) % 101 := ⟨_, rfl⟩
                have HE9 := Lib.hid he9
                have he91 : 0 ≤ e9 := by omega
                have he92 : e9 ≤ 100 := by omega
                have HMOD2 : Hid (∀ W, Calls Tryz.prog 52 #[.int .i64 (c + cm)] W fun e w' => e = .returned (.int .i64 e9) ∧ W = w') := Lib.hid (by rw [he9]; exact HMOD.out)
                clear hzr he9
                go_wp2_with (go_at_call 52; refine (HMOD2.out _).mono ?_; rintro e w' ⟨rfl, rfl⟩)
                go_roundw
                case rel => exact ⟨m + 1, e9, by omega, by omega, by go_num, rfl, he91, he92, by
                    rw [run_snoc hfm hmq, cf_append, cf_one _ _ HZR.out, ← HCM.out]
                    have h1 := HCF.out
                    have h2 := HE9.out
                    omega, fun i h h1 h2 => by
                    by_cases e : i = m
                    · subst e; exact HZR.out
                    · exact HRN.out i h h1 (by omega), HC1.out⟩
                case measure => simp [intOf]; omega
            · have HRZ := Lib.hid hrz
              have hb0 : (r == 0) = false := by simp [hrz]
              clear hrz
              go_wp2_with fail
              go_region_held3 (fun w' => w'.cell? ⟨w.heap.size, 0, none⟩ = some (.func (.func 66) #[] #[]) ∧ w'.cell? ⟨wo.heap.size, 1, none⟩ = some (.iface ty (.pointer (some a))) ∧ w'.cell? ⟨wo.heap.size, 2, none⟩ = some (.slice (some ⟨gw, 0, none⟩) pl wcp) ∧ w'.cell? ⟨wo.heap.size, 3, none⟩ = some (.string ⟨tx⟩) ∧ w'.cell? ⟨g1, m * 4 + 1, none⟩ = some x ∧ w'.cell? ⟨g1, m * 4 + 2, none⟩ = some y ∧ w'.cell? ⟨g1, m * 4 + 3, none⟩ = some z)
                (first | exact ⟨xb, q1', q2', q3', e1, e2, e3⟩ | exact ⟨p0, p1, p2, p3, p4, p5, p6⟩)
                (first
                | (go_at_call 66; refine (HD.out _ (Below.refl _ _).drew).mono ?_; rintro e w5 ⟨rfl, hG⟩; have hB5 : Below wr.heap.size wr w5 := (Below.refl _ _).drew.trans hG.below; have p0 := keep1 hB5 xb; have p1 := keep1 hB5 q1'; have p2 := keep1 hB5 q2'; have p3 := keep1 hB5 q3'; have p4 := keep1 hB5 e1; have p5 := keep1 hB5 e2; have p6 := keep1 hB5 e3; have p7 := keep1 hB5 e0; have HC1 := Lib.hid (below_step HBL.out hB5); clear hG hB5))
              all_goals
                go_wp2_with fail
                go_meet
                have h1 := HRUN.out m c hfm (by have := HQL.out; omega) hc1 hc2 HCF.out HRN.out (fun h => by rw [← HRR.out]; exact HRZ.out)
                exact ⟨m, c, h1.1, hmn, rfl, rfl, hc1, hc2, h1.2, HC1.out⟩
          · have hd : decide (m < n) = false := decide_eq_false hlm
            have HMN : Hid (m = n) := Lib.hid (by omega)
            clear hBr hBw hB
            go_wp2_with fail
            go_quiet (fail)
            go_wp2_with fail
            go_meet
            have h1 := HRUN.out m c hfm (by have := HQL.out; omega) hc1 hc2 HCF.out HRN.out (fun h => by have := HQL.out; have := HMN.out; omega)
            exact ⟨m, c, h1.1, hmn, rfl, rfl, hc1, hc2, h1.2, below_drewN HBL.out nq⟩
      case rest =>
        obtain ⟨m, c, hfm, hmn, rfl, rfl, hc1, hc2, hgrp, hB⟩ := hcut
        have hBr : Below wo.heap.size wo wc := ((Below.refl _ _).alloc (Nat.le_refl _) _).trans (hB.mono (by simp))
        have hF : wc.heap[wo.heap.size]? = some (.cells #[.int .i64 c0, .iface ty (.pointer (some a)), .slice (some ⟨gw, 0, none⟩) pl wcp, .string ⟨tx⟩] 120 (0, 0)) := (hB.block _ (by simp)).trans (heap_alloc_new wo _)
        have q1' : wc.cell? ⟨wo.heap.size, 1, none⟩ = some (.iface ty (.pointer (some a))) := by rw [Lib.cell_of_heap hF]; rfl
        have q2' : wc.cell? ⟨wo.heap.size, 2, none⟩ = some (.slice (some ⟨gw, 0, none⟩) pl wcp) := by rw [Lib.cell_of_heap hF]; rfl
        have q3' : wc.cell? ⟨wo.heap.size, 3, none⟩ = some (.string ⟨tx⟩) := by rw [Lib.cell_of_heap hF]; rfl
        have HGR := Lib.hid hgrp
        have HBC := Lib.hid (below_step HB.out hBr)
        have HROW2 := Lib.hid (HROW.out.below hBr)
        have HRK2 := Lib.hid (HRK.out.below hw hBr)
        have hszc : w2.heap.size ≤ wc.heap.size := (below_step HB.out hBr).size
        clear hgrp hB hBr hF
        by_cases hc : c = 0
        · have HC := Lib.hid hc
          have hb0 : (c != 0) = false := by simp [hc]
          clear hc
          go_wp2_with fail
          go_roundw
          case rel => exact ⟨K, m, va, vc, vs, hmn, by rw [← HKL.out]; omega, HVA.out, rfl, by rw [← HKL.out], by
              have h := HGR.out
              rw [if_pos HC.out] at h; exact h, by rw [← HKL.out]; exact HROW2.out, HBC.out⟩
          case measure => simp [intOf]; omega
        · have HC := Lib.hid hc
          have hb0 : (c != 0) = true := by simp [hc]
          have OWN := HROW2.out.own
          rw [← HKL.out] at OWN
          have HOA := Lib.hid (World.ownsRow.alloc OWN (.cells #[.int .i64 c, .iface ty (.pointer (some a)), .slice (some ⟨gw, 0, none⟩) pl wcp, .string ⟨tx⟩] 120 (0, 0)))
          have HOWN := Lib.hid OWN
          clear hc OWN
          go_wp2_with (at_builtin; refine wpList_append_own_at _ rfl _ _ 104 rfl w2.heap.size 120 i0 (.agg #[.int .i64 0, .nilIface, .slice none 0 0, .string ⟨#[]⟩]) 4 64 Tryz.underlying104 hi0 hzz hzs hzb rfl (by decide) (.slice va kl vc) kl vs rfl HOA.out ⟨wc.heap.size, 0, none⟩ 1 1 [.int .i64 c, .iface ty (.pointer (some a)), .slice (some ⟨gw, 0, none⟩) pl wcp, .string ⟨tx⟩] rfl rfl (cells_four rfl _ _ _ _) (by simp [Value.oneCell']) (by unfold maxLen; omega) (by omega) (by simp; omega) ?_; intro v3 w6 hown3 hg3 hnil3 hat3)
          obtain ⟨g3, q3, rfl, _, _, _⟩ := owns_some hown3 (fun e => by have := hnil3.1 e; simp at this)
          have NX : Row (tmI.inn (fun b => (b < w.heap.size ∧ P b) ∨ w2.heap.size ≤ b)) 120 w2.heap.size (K ++ [(c, t)]) (.slice (some ⟨g3, 0, none⟩) (kl + 1) q3) (vs ++ [.int .i64 c, .iface ty (.pointer (some a)), .slice (some ⟨gw, 0, none⟩) pl wcp, .string ⟨tx⟩]) w6 := by
            have h := HROW2.out.next (a := (c, t)) (g := g3) (cap := q3) (w1 := wc) (w1' := wc.alloc (.cells #[.int .i64 c, .iface ty (.pointer (some a)), .slice (some ⟨gw, 0, none⟩) pl wcp, .string ⟨tx⟩] 120 (0, 0))) (Below.refl _ _) ⟨_, _, _, rfl, hw, HRK2.out.keep hw (fun _ _ _ h => h) (fun b hb _ => ⟨fun e => by have := (HOWN.out.lt b e).1; omega, .inl hb⟩)⟩ ((Below.refl _ _).alloc (Nat.le_refl _) _) (by rw [← HKL.out]; exact hown3) hg3 (by
              rcases hat3 with h | h
              · left; rw [← h]; rfl
              · right; simp [Value.ownBlock] at h; omega)
            rw [← HKL.out] at h
            exact h
          have HNX := Lib.hid NX
          have BB := Lib.hid ((HBC.out.alloc hszc (.cells #[.int .i64 c, .iface ty (.pointer (some a)), .slice (some ⟨gw, 0, none⟩) pl wcp, .string ⟨tx⟩] 120 (0, 0))).grown hg3 (by simp; omega) (fun q e => by have := (HOWN.out.lt q e).1; omega))
          clear NX hown3 hg3 hnil3 hat3
          go_wp2_with fail
          go_roundw
          case rel => exact ⟨K ++ [(c, t)], m, some ⟨g3, 0, none⟩, q3, _, hmn, by rw [List.length_append, ← HKL.out]; simp; omega, by simp, rfl, by rw [List.length_append, ← HKL.out]; rfl, by
              have h := HGR.out
              rw [if_neg HC.out] at h; exact h, by rw [List.length_append, ← HKL.out]; exact HNX.out, BB.out⟩
          case measure => simp [intOf]; omega
    · have hfn : f = n := by omega
      have HK : Hid (K = canon ps) := Lib.hid (by
        have h := HGRP.out
        rw [List.drop_eq_nil_of_le (by have := HQL.out; omega)] at h
        rw [h.done (fun p hp => (HQS.out p hp).1), canon_perm (fun p hp => (HQS.out p hp).1) HPERM.out])
      obtain ⟨gv, rfl, _⟩ := owns_addr HROW.out.own HVA.out
      have HRD := Lib.hid (HROW.out.rd.inn (fun g e h0 => .inr (HROW.out.rd_from g e h0)))
      have x0 : wo.cell? ⟨w.heap.size, 0, none⟩ = some (.func (.func 66) #[] #[]) := by rw [Lib.cell_of_heap HX.out]; rfl
      obtain ⟨r0, r1, fr0, fr1⟩ := two_cells HRB.out
      go_wp2_with fail
      refine bodyPost_ret (v := .agg #[(.func (.func 66) #[] #[]), .slice (some ⟨gv, 0, none⟩) kl vc]) (by simp [results, Tryz.results65, go_sem, r0, r1]) rfl ?_
      have hBf := ((below_step HBW2.out HB.out).setCell (p := ⟨w.heap.size + 1, 0, none⟩) (by simp) (.func (.func 66) #[] #[])).setCell (p := ⟨w.heap.size + 1, 1, none⟩) (by simp) (.slice (some ⟨gv, 0, none⟩) kl vc)
      refine ⟨hBf, gv, vc, by rw [← HK.out, HKL.out], ?_⟩
      rw [← HK.out]
      refine HRD.out.keep (by decide) (fun q u hq hu => ?_) (fun b hb _ => by rcases hb with h | h; exact .inl h.2; exact .inr (by omega))
      have hne : q.block ≠ w.heap.size + 1 := by rcases hq with h | h <;> omega
      rw [World.cell?_of_block (w := wo)]
      · exact hu
      · rw [Below.heap_setCell _ _ _ _ hne, Below.heap_setCell _ _ _ _ hne]
end Go.Proofs.YtoeebipahifpcaaGreat
end
