/- The library's sort at the parts of a combination: what stands in the row behind it. -/
import Derived.Test.YtipodlckehodnaaSumRI
import Derived.Test.YtipodlckehodnaaShelf
import Derived.Shelf.SlSortCmp.WholeK
import Derived.Shelf.SlSortCmp.NoneTotal
namespace Go.Proofs.Ytipodlckehodnaa
open Go.RowKit Go.Sort

/-- A part, and the values in which its tree stands. -/
structure PtD where
  c : Int
  t : T
  x : Value
  y : Value
  z : Value

def PtD.ok (w : World) (P : Nat → Prop) (q : PtD) : Prop := q.t.wf ∧ q.t.leaves ≤ 1000 ∧ q.t.nodes ≤ 1000 ∧ RkI w P q.t q.x q.y q.z

def encPt {w : World} {P : Nat → Prop} (q : {q : PtD // q.ok w P}) : List Value := [.int .i64 q.1.c, q.1.x, q.1.y, q.1.z]
def cfPt {w : World} {P : Nat → Prop} (p q : {q : PtD // q.ok w P}) : Int := ordT q.1.t p.1.t

theorem encPt_one {w : World} {P : Nat → Prop} (q : {q : PtD // q.ok w P}) : ∀ v ∈ encPt q, v.oneCell' = true :=
  tmI.one (w := w) (P := P) (a := (q.1.c, q.1.t)) ⟨_, _, _, rfl, q.2.1, q.2.2.2.2⟩

theorem ltPt {w : World} {P : Nat → Prop} (p q : {q : PtD // q.ok w P}) : ltOf (cfPt (w := w) (P := P)) p q = decide (ordT q.1.t p.1.t < 0) := rfl

theorem swoPt {w : World} {P : Nat → Prop} : SWO (ltOf (cfPt (w := w) (P := P))) where
  irrefl x := by rw [ltPt, isCmp_ordT.self]; rfl
  trans x y z h1 h2 := by
    rw [ltPt] at h1 h2 ⊢
    have e1 := of_decide_eq_true h1
    have e2 := of_decide_eq_true h2
    exact decide_eq_true (isCmp_ordT.lt_le e2 (by omega))
  ntrans x y z h1 h2 := by
    rw [ltPt] at h1 h2 ⊢
    have e1 := of_decide_eq_false h1
    have e2 := of_decide_eq_false h2
    have := isCmp_ordT.ge_ge (a := z.1.t) (b := y.1.t) (d := x.1.t) (by omega) (by omega)
    exact decide_eq_false (by omega)

/-- What was readable outside of the row is so in every world that the sort passes through. -/
theorem keeps_sort {α : Type} [Inhabited α] (enc : α → List Value) (k : Nat) (w : World) (blk off m : Nat) (dk : Array α) (os : Array Obj) : Keeps (fun b => b ≠ blk) w (sortWorldK enc k w blk off m dk os) := fun a v ha hv => by
  have h1 := World.block_lt_of_cell? w a hv
  have h2 : (putRowK enc k (Sort.ahead w m) blk off dk).cell? a = some v := by rw [cell?_putRowK_other _ _ _ _ _ _ _ ha]; exact hv
  have h3 := World.block_lt_of_cell? _ a h2
  unfold sortWorldK
  rw [World.cell?_of_block (w := putRowK enc k (Sort.ahead w m) blk off dk)]
  · exact h2
  · show ((putRowK enc k (Sort.ahead w m) blk off dk).heap ++ os)[a.block]? = _
    rw [Array.getElem?_append_left h3]

set_option maxRecDepth 100000 in
set_option maxHeartbeats 1000000 in
/-- The closure that the sort is handed: it compares two parts by what was captured. -/
theorem closurePt_any (p q : PtD) (P : Nat → Prop) (B : Nat) (W : World) (hp : p.ok W P) (hq : q.ok W P) (hc : W.cell? ⟨B, 0, none⟩ = some (.func (.func 57) #[] #[])) :
    Calls Try.prog 93 #[.agg #[.int .i64 p.c, p.x, p.y, p.z], .agg #[.int .i64 q.c, q.x, q.y, q.z], .pointer (some ⟨B, 0, none⟩)] W (AnsG (.int .i64 (ordT q.t p.t)) W) := by
  obtain ⟨c, t, x, y, z⟩ := p
  obtain ⟨c', t', x', y', z'⟩ := q
  obtain ⟨hw, hl, hn, hr⟩ := hp
  obtain ⟨hw', hl', hn', hr'⟩ := hq
  simp only at hw hl hn hr hw' hl' hn' hr' ⊢
  have HD := Lib.hid (fun (W' : World) (hb : Go.RowKit.Below W.heap.size W W') => descending_grew t t' P x y z x' y' z' W' hl hl' (hr.below hw hb) (hr'.below hw' hb))
  have HC := Lib.hid hc
  have HQ : Hid (Grew W ((W.alloc (.cells #[.int .i64 c, x, y, z] 130 (0, 0))).alloc (.cells #[.int .i64 c', x', y', z'] 130 (0, 0)))) := Lib.hid (((Grew.refl _).alloc _).alloc _)
  have hc2 := keep1 HQ.out.below hc
  obtain ⟨r, hr0⟩ : ∃ r, r = ordT t' t := ⟨_, rfl⟩
  rw [← hr0] at HD ⊢
  obtain ⟨ty, a, g, wc, rfl, rfl, rfl, _⟩ := hr
  obtain ⟨ty', a', g', wc', rfl, rfl, rfl, _⟩ := hr'
  clear hc hr0
  go_enter Try.func93, Try.ntmps93
  go_wp2_with fail
  refine (HD.out _ HQ.out.below).mono ?_
  rintro e w1 ⟨rfl, hG⟩
  go_wp2_with fail
  go_ret
  exact ⟨rfl, HQ.out.trans hG⟩

theorem grown_sort {α : Type} [Inhabited α] (enc : α → List Value) (k : Nat) (w : World) (blk off m : Nat) (dk : Array α) (os : Array Obj) : w.grownBy (sortWorldK enc k w blk off m dk os) (some blk) := by
  have hh : ∀ i, i ≠ blk → (putRowK enc k (Sort.ahead w m) blk off dk).heap[i]? = w.heap[i]? := fun i hi => by
    show ((Sort.ahead w m).heap.modify blk _)[i]? = _
    rw [Array.getElem?_modify, if_neg (fun e => hi e.symm)]
    rfl
  have hs : (putRowK enc k (Sort.ahead w m) blk off dk).heap.size = w.heap.size := by
    show ((Sort.ahead w m).heap.modify blk _).size = _
    rw [Array.size_modify]; rfl
  refine ⟨rfl, rfl, rfl, ?_, fun i hi hn => ?_⟩
  · show w.heap.size ≤ ((putRowK enc k (Sort.ahead w m) blk off dk).heap ++ os).size
    rw [Array.size_append, hs]; omega
  · show ((putRowK enc k (Sort.ahead w m) blk off dk).heap ++ os)[i]? = _
    rw [Array.getElem?_append_left (by rw [hs]; exact hi)]
    exact hh i (fun e => hn (by rw [e]))

/-- What the sort leaves: the parts, none behind a greater one. -/
def SortPost (Q : Nat → Prop) (ps : List Tm) (blk : Nat) (w : World) (e : Ending) (w' : World) : Prop :=
  e = .returned (.tuple #[]) ∧ w.grownBy w' (some blk) ∧ ∃ qs : List Tm, qs.Perm ps ∧ (∀ i j (hi : i < qs.length) (hj : j < qs.length), i < j → 0 ≤ ordT (qs[i]).2 (qs[j]).2) ∧
    ∀ k (h : k < qs.length), ∃ x y z, w'.cell? ⟨blk, k * 4, none⟩ = some (.int .i64 (qs[k]).1) ∧ w'.cell? ⟨blk, k * 4 + 1, none⟩ = some x ∧ w'.cell? ⟨blk, k * 4 + 2, none⟩ = some y ∧ w'.cell? ⟨blk, k * 4 + 3, none⟩ = some z ∧ (qs[k]).2.wf ∧ RkI w' (fun b => b ≠ blk ∧ Q b) (qs[k]).2 x y z

theorem sortPts_any (Q : Nat → Prop) (ps : List Tm) (n : Nat) (hn : n = ps.length) (blk cap B base : Nat) (xs : List Value) (w : World) (hrow : Row (tmI.inn Q) 130 base ps (.slice (some ⟨blk, 0, none⟩) n cap) xs w) (hps : ∀ p ∈ ps, p.2.leaves ≤ 1000 ∧ p.2.nodes ≤ 1000)
    (hB : B ≠ blk) (hc : w.cell? ⟨B, 0, none⟩ = some (.func (.func 57) #[] #[])) (hn2 : n ≤ 100000) :
    Calls Try.prog 92 #[.slice (some ⟨blk, 0, none⟩) n cap, .func (.func 93) #[] #[.pointer (some ⟨B, 0, none⟩)]] w (SortPost Q ps blk w) := by
  rcases Nat.eq_zero_or_pos n with h0 | h0
  · subst h0
    have hcon := AnyF.slices_SortFunc_none Try.sortPt (some ⟨blk, 0, none⟩) cap (.func (.func 93) #[] #[.pointer (some ⟨B, 0, none⟩)]) w
    change Calls Try.prog 92 _ _ _ at hcon
    have hp : ps = [] := List.length_eq_zero_iff.1 hn.symm
    subst hp
    exact hcon.mono fun e w' ⟨he, hw⟩ => by
      subst hw
      exact ⟨he, grownBy_refl _ _, [], List.Perm.refl _, fun i j hi => by simp at hi, fun k h => by simp at h⟩
  · have hxl := hrow.own.1
    have hblk : ∃ cur, w.heap[blk]? = some (.cells cur 130 (0, 0)) := by
      rcases hrow.own.2 with ⟨e, _⟩ | ⟨g', cap', cur, e, _, hg, _⟩
      · cases e
      · simp only [Value.slice.injEq, Option.some.injEq, Addr.mk.injEq] at e
        obtain ⟨⟨rfl, _⟩, _⟩ := e
        exact ⟨cur, hg⟩
    obtain ⟨cur, hcur⟩ := hblk
    have hlt : blk < w.heap.size := (Array.getElem?_eq_some_iff.1 hcur).1
    have hex : ∀ k (h : k < n), ∃ q : {q : PtD // q.ok w (fun b => b ≠ blk ∧ Q b)}, q.1.c = (ps[k]'(by omega)).1 ∧ q.1.t = (ps[k]'(by omega)).2 ∧ ∀ j, j < 4 → w.cell? ⟨blk, k * 4 + j, none⟩ = (encPt q)[j]? := fun k h => by
      obtain ⟨cs, h1, x, y, z, rfl, hw, hr⟩ := hrow.reps k (by omega)
      have hp := hps (ps[k]'(by omega)) (List.getElem_mem _)
      refine ⟨⟨⟨(ps[k]'(by omega)).1, (ps[k]'(by omega)).2, x, y, z⟩, hw, hp.1, hp.2, hr.keep hw (fun _ _ _ h => h) (fun b hb _ => ⟨fun e => hb.1 (by rw [e]; rfl), hb.2⟩)⟩, rfl, rfl, fun j hj => ?_⟩
      have e1 := h1 j hj
      have hk4 : k * 4 + j < xs.length := by rw [hxl]; show k * 4 + j < ps.length * 4; omega
      have e2 := hrow.own.cells (g := blk) rfl (k * 4 + j) (xs[k * 4 + j]'hk4) (by rw [List.getElem?_eq_getElem])
      have e3 : (⟨blk, 0, none⟩ : Addr).add (k * 4 + j) = ⟨blk, k * 4 + j, none⟩ := by unfold Addr.add; split <;> simp_all
      rw [e3] at e2
      rw [e2]
      have e4 : xs[k * 4 + j]? = some (xs[k * 4 + j]'hk4) := List.getElem?_eq_getElem hk4
      rw [← e4]; exact e1
    have inh : Inhabited {q : PtD // q.ok w (fun b => b ≠ blk ∧ Q b)} := ⟨Classical.choose (hex 0 h0)⟩
    obtain ⟨d, hds, hdk⟩ : ∃ d : Array {q : PtD // q.ok w (fun b => b ≠ blk ∧ Q b)}, d.size = n ∧ ∀ k (h : k < n), d[k]! = Classical.choose (hex k h) := by
      refine ⟨Array.ofFn (fun k : Fin n => Classical.choose (hex k.1 k.2)), by simp, fun k h => ?_⟩
      rw [getElem!_pos _ k (by simpa using h)]
      simp
    have hdp : ∀ k (h : k < n), (d[k]!).1.c = (ps[k]'(by omega)).1 ∧ (d[k]!).1.t = (ps[k]'(by omega)).2 ∧ ∀ j, j < 4 → w.cell? ⟨blk, k * 4 + j, none⟩ = (encPt d[k]!)[j]? := fun k h => by
      rw [hdk k h]; exact Classical.choose_spec (hex k h)
    have hk4 : ∀ q : {q : PtD // q.ok w (fun b => b ≠ blk ∧ Q b)}, (encPt q).length = 4 := fun _ => rfl
    have hH : HoldsK (encPt (w := w) (P := fun b => b ≠ blk ∧ Q b)) 4 w blk 0 d := fun j hj => by
      rw [size_flatK, hds] at hj
      have h1 : j / 4 < n := by omega
      have h2 : j % 4 < 4 := by omega
      have h3 := (hdp (j / 4) h1).2.2 (j % 4) h2
      have e : j / 4 * 4 + j % 4 = j := by omega
      rw [e] at h3
      refine ⟨?_, Lib.frozen_of_heap hcur _⟩
      rw [Nat.zero_add, h3, get_flatK _ _ _ _ (by rw [hds]; exact hj)]
      rw [List.getElem?_eq_getElem (by rw [hk4]; exact h2), getElem!_pos (encPt d[j / 4]!) (j % 4) (by rw [hk4]; exact h2)]
      rfl
    have hmap : d.toList.map (fun q => ((q.1.c, q.1.t) : Tm)) = ps := by
      apply List.ext_getElem
      · simp; omega
      · intro k h1 h2
        have hk : k < n := by omega
        have := hdp k hk
        rw [getElem!_pos d k (by omega)] at this
        simp only [List.getElem_map, Array.getElem_toList]
        exact Prod.ext this.1 this.2.1
    have eg : ∀ args w, (callFunc 93 args).run Try.prog w = .ok (.enter 93 args) w := enters_of Try.func93 (by kernel_rfl) rfl
    have hcmp : CmpLays Try.prog 93 #[.pointer (some ⟨B, 0, none⟩)] encPt 4 cfPt blk 0 d.size w := fun m os dk hdk2 p q => by
      have hkeep := keeps_sort (encPt (w := w) (P := fun b => b ≠ blk ∧ Q b)) 4 w blk 0 m dk os
      have hok : ∀ r : {q : PtD // q.ok w (fun b => b ≠ blk ∧ Q b)}, r.1.ok (sortWorldK encPt 4 w blk 0 m dk os) (fun b => b ≠ blk ∧ Q b) := fun r => ⟨r.2.1, r.2.2.1, r.2.2.2.1, r.2.2.2.2.keep r.2.1 (Keeps.mono hkeep (fun _ h => h.1)) (fun _ h _ => h)⟩
      exact closurePt_any p.1 q.1 _ B _ (hok p) (hok q) (hkeep _ _ hB hc)
    have hcon := AnyQ.slices_SortFunc Try.sortPt 4 Try.isAgg130 Try.sizeOf130 encPt hk4 encPt_one cfPt swoPt 93 #[.pointer (some ⟨B, 0, none⟩)] blk 0 cap d w eg hcmp hH hlt (by omega)
    change Calls Try.prog 92 _ _ _ at hcon
    rw [hds] at hcon
    refine hcon.mono fun e w' ⟨he, d', m, os, hperm, hsorted, hw'⟩ => ?_
    subst hw'
    have hd's : d'.size = n := by rw [hperm.1, hds]
    have hH' := holdsK_sortWorldK_c encPt 4 w blk 0 d d' m os hH hlt (by omega)
    refine ⟨he, grown_sort _ _ _ _ _ _ _ _, d'.toList.map (fun q => ((q.1.c, q.1.t) : Tm)), ?_, ?_, ?_⟩
    · have h1 := hperm.2.2
      rw [Array.extract_eq_self_of_le (by omega), Array.extract_eq_self_of_le (by omega)] at h1
      have h2 := h1.map (fun q => ((q.1.c, q.1.t) : Tm))
      rw [hmap] at h2; exact h2
    · intro i j hi hj hij
      simp at hi hj
      have h1 := hsorted i j (by omega) hij (by omega)
      rw [ltPt, getElem!_pos d' i (by omega), getElem!_pos d' j (by omega)] at h1
      have h2 := of_decide_eq_false h1
      simp only [List.getElem_map, Array.getElem_toList]
      omega
    · intro k hk
      simp at hk
      have hc0 := (hH'.cell (i := k) (c := 0) (by omega) (by omega)).1
      have hc1 := (hH'.cell (i := k) (c := 1) (by omega) (by omega)).1
      have hc2 := (hH'.cell (i := k) (c := 2) (by omega) (by omega)).1
      have hc3 := (hH'.cell (i := k) (c := 3) (by omega) (by omega)).1
      rw [Nat.zero_add] at hc0 hc1 hc2 hc3
      rw [getElem!_pos d' k (by omega)] at hc0 hc1 hc2 hc3
      simp only [List.getElem_map, Array.getElem_toList]
      have hok := (d'[k]'(by omega)).2
      exact ⟨_, _, _, hc0, hc1, hc2, hc3, hok.1, hok.2.2.2.keep hok.1 (Keeps.mono (keeps_sort encPt 4 w blk 0 m d' os) (fun _ h => h.1)) (fun _ h _ => h)⟩

end Go.Proofs.Ytipodlckehodnaa
