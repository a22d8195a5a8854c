/- A list of terms read as a sum, as mathematics; how terms lie for the model and for the program. No walk here. -/
import Derived.Test.YtoeebipahifpcaaGreatSumM
import Derived.Test.YtoeebipahifpcaaGreatRow
import Derived.Test.YtoeebipahifpcaaGreatKOrdI
import Derived.Test.YtoeebipahifpcaaGreatKStrT
namespace Go.Proofs.YtoeebipahifpcaaGreat
open Go.RowKit

def fitsHd (ps : List Tm) (t : T) : Bool :=
  match ps with
  | [] => true
  | p :: _ => decide (t.leaves = p.2.leaves)
def fitsLast (ps : List Tm) (t : T) : Bool :=
  match ps.getLast? with
  | none => true
  | some q => decide (0 < ordT q.2 t)
/-- A term that may stand behind others: its coefficient is in the range, it has as many leaves, and, if D, it comes behind the last one. -/
def fits (lo hi : Int) (D : Bool) (ps : List Tm) (c : Int) (t : T) : Bool := decide (lo ≤ c) && decide (c ≤ hi) && fitsHd ps t && (!D || fitsLast ps t)

def rdStep (lo hi : Int) (D : Bool) (acc : Option (List Tm)) (x : Int × ByteArray) : Option (List Tm) :=
  match acc with
  | none => none
  | some ps =>
    match parse x.2.data.toList with
    | none => none
    | some t => if fits lo hi D ps x.1 t = true then some (ps ++ [(x.1, t)]) else none

theorem rdStep_none (lo hi : Int) (D : Bool) (x : Int × ByteArray) : rdStep lo hi D none x = none := rfl
theorem rdStep_no {lo hi : Int} {D : Bool} {x : Int × ByteArray} (hp : parse x.2.data.toList = none) (acc : Option (List Tm)) : rdStep lo hi D acc x = none := by cases acc <;> simp [rdStep, hp]
theorem rdStep_tree {lo hi : Int} {D : Bool} {x : Int × ByteArray} {t : T} (hp : parse x.2.data.toList = some t) (ps : List Tm) : rdStep lo hi D (some ps) x = if fits lo hi D ps x.1 t = true then some (ps ++ [(x.1, t)]) else none := by simp [rdStep, hp]

def rdAll (lo hi : Int) (D : Bool) (xs : List (Int × ByteArray)) : Option (List Tm) := xs.foldl (rdStep lo hi D) (some [])

theorem rdAll_nil (lo hi : Int) (D : Bool) : rdAll lo hi D [] = some [] := rfl
theorem rdAll_snoc (lo hi : Int) (D : Bool) (xs : List (Int × ByteArray)) (x : Int × ByteArray) : rdAll lo hi D (xs ++ [x]) = rdStep lo hi D (rdAll lo hi D xs) x := by simp [rdAll, List.foldl_append]

theorem rdFold_none (lo hi : Int) (D : Bool) (xs : List (Int × ByteArray)) : xs.foldl (rdStep lo hi D) none = none := by
  induction xs with
  | nil => rfl
  | cons x xs ih => exact ih

theorem rdAll_none {lo hi : Int} {D : Bool} {xs : List (Int × ByteArray)} {k : Nat} (h : rdAll lo hi D (xs.take k) = none) : rdAll lo hi D xs = none := by
  have : rdAll lo hi D (xs.take k ++ xs.drop k) = none := by
    rw [rdAll, List.foldl_append]
    rw [rdAll] at h
    rw [h, rdFold_none]
  rwa [List.take_append_drop] at this

theorem rdAll_take {lo hi : Int} {D : Bool} {xs : List (Int × ByteArray)} {k : Nat} (h : k < xs.length) : rdAll lo hi D (xs.take (k + 1)) = rdStep lo hi D (rdAll lo hi D (xs.take k)) xs[k] := by
  rw [List.take_succ_eq_append_getElem h, rdAll_snoc]

/-- The next one is no tree. -/
theorem rd_no_tree {lo hi : Int} {D : Bool} {xs : List (Int × ByteArray)} {k : Nat} (h : k < xs.length) (hp : parse (xs[k]).2.data.toList = none) : rdAll lo hi D xs = none :=
  rdAll_none (k := k + 1) (by rw [rdAll_take h, rdStep_no hp])
theorem rd_no_fit {lo hi : Int} {D : Bool} {xs : List (Int × ByteArray)} {k : Nat} {ps : List Tm} {t : T} (h : k < xs.length) (hr : rdAll lo hi D (xs.take k) = some ps) (hp : parse (xs[k]).2.data.toList = some t) (hf : fits lo hi D ps (xs[k]).1 t = false) : rdAll lo hi D xs = none :=
  rdAll_none (k := k + 1) (by rw [rdAll_take h, hr, rdStep_tree hp, if_neg (by rw [hf]; simp)])
theorem rd_fit {lo hi : Int} {D : Bool} {xs : List (Int × ByteArray)} {k : Nat} {ps : List Tm} {t : T} (h : k < xs.length) (hr : rdAll lo hi D (xs.take k) = some ps) (hp : parse (xs[k]).2.data.toList = some t) (hf : fits lo hi D ps (xs[k]).1 t = true) : rdAll lo hi D (xs.take (k + 1)) = some (ps ++ [((xs[k]).1, t)]) := by
  rw [rdAll_take h, hr, rdStep_tree hp, if_pos hf]

/-- What has been read. -/
structure TmsOk (lo hi : Int) (ps : List Tm) : Prop where
  tree : ∀ p ∈ ps, p.2.wf ∧ p.2.leaves ≤ 12 ∧ p.2.nodes ≤ 16
  coef : ∀ p ∈ ps, lo ≤ p.1 ∧ p.1 ≤ hi
  same : ∀ p ∈ ps, ∀ q ∈ ps, p.2.leaves = q.2.leaves

theorem TmsOk.nil {lo hi : Int} : TmsOk lo hi [] := ⟨fun _ h => by simp at h, fun _ h => by simp at h, fun _ h => by simp at h⟩

theorem fits_parts {lo hi : Int} {D : Bool} {ps : List Tm} {c : Int} {t : T} (h : fits lo hi D ps c t = true) : lo ≤ c ∧ c ≤ hi ∧ fitsHd ps t = true ∧ (D = true → fitsLast ps t = true) := by
  simp only [fits, Bool.and_eq_true, decide_eq_true_eq, Bool.or_eq_true, Bool.not_eq_true'] at h
  refine ⟨h.1.1.1, h.1.1.2, h.1.2, fun hd => ?_⟩
  rcases h.2 with e | e
  · rw [hd] at e; cases e
  · exact e

theorem fitsHd_same {ps : List Tm} {t : T} (h : fitsHd ps t = true) (hs : ∀ p ∈ ps, ∀ q ∈ ps, p.2.leaves = q.2.leaves) : ∀ p ∈ ps, p.2.leaves = t.leaves := by
  cases ps with
  | nil => intro p hp; simp at hp
  | cons q ps =>
    simp only [fitsHd, decide_eq_true_eq] at h
    intro p hp
    rw [hs p hp q (by simp), h]

theorem fitsHd_get {ps : List Tm} {t : T} (h : 0 < ps.length) : fitsHd ps t = decide (t.leaves = (ps[0]).2.leaves) := by
  cases ps with
  | nil => simp at h
  | cons q ps => rfl
theorem fitsLast_get {ps : List Tm} {t : T} {j : Nat} (hj : j + 1 = ps.length) : fitsLast ps t = decide (0 < ordT (ps[j]'(by omega)).2 t) := by
  have e : ps.getLast? = some (ps[j]'(by omega)) := by rw [List.getLast?_eq_getElem?, List.getElem?_eq_getElem (by omega)]; congr 2; omega
  rw [fitsLast, e]

theorem TmsOk.next {lo hi : Int} {ps : List Tm} {c : Int} {t : T} (h : TmsOk lo hi ps) (ht : t.wf) (hl : t.leaves ≤ 12) (hn : t.nodes ≤ 16) (h1 : lo ≤ c) (h2 : c ≤ hi) (hf : fitsHd ps t = true) : TmsOk lo hi (ps ++ [(c, t)]) := by
  have hs := fitsHd_same hf h.same
  refine ⟨fun p hp => ?_, fun p hp => ?_, fun p hp q hq => ?_⟩
  · rcases List.mem_append.1 hp with e | e
    · exact h.tree p e
    · have e : p = (c, t) := by simpa using e
      subst e; exact ⟨ht, hl, hn⟩
  · rcases List.mem_append.1 hp with e | e
    · exact h.coef p e
    · have e : p = (c, t) := by simpa using e
      subst e; exact ⟨h1, h2⟩
  · have : ∀ p ∈ ps ++ [(c, t)], p.2.leaves = t.leaves := fun p hp => by
      rcases List.mem_append.1 hp with e | e
      · exact hs p e
      · have e : p = (c, t) := by simpa using e
        subst e; rfl
    rw [this p hp, this q hq]

theorem Pairwise_snoc {α : Type} {R : α → α → Prop} {l : List α} {a : α} (h : l.Pairwise R) (ha : ∀ x ∈ l, R x a) : (l ++ [a]).Pairwise R := by
  rw [List.pairwise_append]
  exact ⟨h, by simp, fun x hx y hy => by have e : y = a := by simpa using hy
                                         rw [e]; exact ha x hx⟩

/-- In descending order. -/
def Desc (ps : List Tm) : Prop := ps.Pairwise (fun p q => 0 < ordT p.2 q.2)

theorem Desc.next {ps : List Tm} {c : Int} {t : T} (h : Desc ps) (hf : fitsLast ps t = true) : Desc (ps ++ [(c, t)]) := by
  refine Pairwise_snoc h (fun x hx => ?_)
  unfold fitsLast at hf
  cases hl : ps.getLast? with
  | none => rw [List.getLast?_eq_none_iff] at hl; subst hl; simp at hx
  | some q =>
    rw [hl] at hf
    simp only [decide_eq_true_eq] at hf
    obtain ⟨ys, hys⟩ := List.getLast?_eq_some_iff.1 hl
    subst hys
    rcases List.mem_append.1 hx with e | e
    · have := (List.pairwise_append.1 h).2.2 x e q (by simp)
      exact isCmp_ordT.gt_ge (d := t) this (by omega)
    · have e : x = q := by simpa using e
      rw [e]; exact hf

theorem desc_of_adj : ∀ (ps : List Tm), (∀ i (h : i + 1 < ps.length), 0 < ordT (ps[i]).2 (ps[i + 1]).2) → Desc ps
  | [], _ => List.Pairwise.nil
  | [p], _ => by simp [Desc]
  | p :: q :: r, h => by
    have ih := desc_of_adj (q :: r) (fun i hi => by have := h (i + 1) (by simpa using hi); simpa using this)
    have h0 := h 0 (by simp)
    simp only [List.getElem_cons_zero, List.getElem_cons_succ] at h0
    refine List.pairwise_cons.2 ⟨fun x hx => ?_, ih⟩
    rcases List.mem_cons.1 hx with e | e
    · rw [e]; exact h0
    · exact isCmp_ordT.gt_ge h0 (by have := (List.pairwise_cons.1 ih).1 x e; omega)
theorem adj_of_desc {ps : List Tm} (h : Desc ps) (i : Nat) (hi : i + 1 < ps.length) : 0 < ordT (ps[i]).2 (ps[i + 1]).2 := by
  have := List.pairwise_iff_getElem.1 h i (i + 1) (by omega) hi (by omega)
  exact this

theorem rdAll_ok {lo hi : Int} {D : Bool} : ∀ (n : Nat) (xs : List (Int × ByteArray)) (ps : List Tm), xs.length = n → rdAll lo hi D xs = some ps → ps.length = xs.length ∧ TmsOk lo hi ps ∧ (D = true → Desc ps) := by
  intro n
  induction n with
  | zero =>
    intro xs ps hn h
    have : xs = [] := List.length_eq_zero_iff.1 hn
    subst this
    rw [rdAll_nil] at h
    cases h
    exact ⟨rfl, TmsOk.nil, fun _ => List.Pairwise.nil⟩
  | succ n ih =>
    intro xs ps hn h
    have e : xs = xs.take n ++ [xs[n]] := by rw [← List.take_succ_eq_append_getElem (by omega), List.take_of_length_le (by omega)]
    rw [e, rdAll_snoc] at h
    have hl : (xs.take n).length = n := by rw [List.length_take]; omega
    cases hr : rdAll lo hi D (xs.take n) with
    | none => rw [hr] at h; cases h
    | some qs =>
      obtain ⟨i1, i2, i3⟩ := ih (xs.take n) qs hl hr
      rw [hr] at h
      cases hp : parse (xs[n]).2.data.toList with
      | none => rw [rdStep_no hp] at h; cases h
      | some t =>
        rw [rdStep_tree hp] at h
        by_cases hf : fits lo hi D qs (xs[n]).1 t = true
        · rw [if_pos hf] at h
          cases h
          obtain ⟨p1, p2, p3, p4⟩ := parse_some hp
          obtain ⟨f1, f2, f3, f4⟩ := fits_parts hf
          exact ⟨by simp; omega, i2.next p1 p3 p4 f1 f2 f3, fun hd => (i3 hd).next (f4 hd)⟩
        · rw [if_neg hf] at h; cases h

theorem nf_of {ps : List Tm} (h : TmsOk 1 100 ps) (hd : Desc ps) : NF ps := ⟨hd, fun p hp => ⟨(h.coef p hp).1, (h.coef p hp).2, (h.tree p hp).1⟩⟩

/-- The sum that a list is. -/
def sumOf (xs : List (Int × ByteArray)) : Option (List Tm) := if 60 < xs.length then none else rdAll 1 100 true xs

theorem sumOf_ok {xs : List (Int × ByteArray)} {ps : List Tm} (h : sumOf xs = some ps) : ps.length = xs.length ∧ xs.length ≤ 60 ∧ TmsOk 1 100 ps ∧ NF ps := by
  unfold sumOf at h
  split at h
  · cases h
  · rename_i hn
    obtain ⟨h1, h2, h3⟩ := rdAll_ok _ xs ps rfl h
    exact ⟨h1, by omega, h2, nf_of h2 (h3 rfl)⟩

/-- Read in any order, and then found to descend. -/
theorem rdAll_desc {lo hi : Int} : ∀ (n : Nat) (xs : List (Int × ByteArray)), xs.length = n →
    (rdAll lo hi true xs = none → ∀ ps, rdAll lo hi false xs = some ps → ¬ Desc ps) ∧ (∀ ps, rdAll lo hi true xs = some ps → rdAll lo hi false xs = some ps) := by
  intro n
  induction n with
  | zero =>
    intro xs hn
    have : xs = [] := List.length_eq_zero_iff.1 hn
    subst this
    constructor
    · intro h
      rw [rdAll_nil] at h; cases h
    · intro ps h
      rw [rdAll_nil] at h ⊢; exact h
  | succ n ih =>
    intro xs hn
    have e : xs = xs.take n ++ [xs[n]] := by rw [← List.take_succ_eq_append_getElem (by omega), List.take_of_length_le (by omega)]
    have hl : (xs.take n).length = n := by rw [List.length_take]; omega
    obtain ⟨i1, i2⟩ := ih (xs.take n) hl
    generalize xs.take n = ys at e hl i1 i2
    generalize xs[n] = x at e
    subst e
    rw [rdAll_snoc, rdAll_snoc]
    constructor
    · intro h ps hps hd
      cases hF : rdAll lo hi false ys with
      | none => rw [hF] at hps; cases hps
      | some qs =>
        rw [hF] at hps
        cases hp : parse x.2.data.toList with
        | none => rw [rdStep_no hp] at hps; cases hps
        | some t =>
          rw [rdStep_tree hp] at hps
          by_cases hf : fits lo hi false qs x.1 t = true
          · rw [if_pos hf] at hps
            cases hps
            have hdq : Desc qs := (List.pairwise_append.1 hd).1
            cases hT : rdAll lo hi true ys with
            | none => exact i1 hT qs hF hdq
            | some qs' =>
              have := i2 qs' hT
              rw [hF] at this
              cases this
              rw [hT, rdStep_tree hp] at h
              by_cases hf2 : fits lo hi true qs x.1 t = true
              · rw [if_pos hf2] at h; cases h
              · apply hf2
                obtain ⟨f1, f2, f3, _⟩ := fits_parts hf
                have hlst : fitsLast qs t = true := by
                  unfold fitsLast
                  cases hl2 : qs.getLast? with
                  | none => rfl
                  | some q =>
                    obtain ⟨zs, hzs⟩ := List.getLast?_eq_some_iff.1 hl2
                    have := (List.pairwise_append.1 hd).2.2 q (by rw [hzs]; simp) (x.1, t) (by simp)
                    simp only [decide_eq_true_eq]
                    exact this
                simp [fits, f1, f2, f3, hlst]
          · rw [if_neg hf] at hps; cases hps
    · intro ps hps
      cases hT : rdAll lo hi true ys with
      | none => rw [hT] at hps; cases hps
      | some qs =>
        rw [i2 qs hT]
        rw [hT] at hps
        cases hp : parse x.2.data.toList with
        | none => rw [rdStep_no hp] at hps; cases hps
        | some t =>
          rw [rdStep_tree hp] at hps ⊢
          by_cases hf : fits lo hi true qs x.1 t = true
          · rw [if_pos hf] at hps
            obtain ⟨f1, f2, f3, _⟩ := fits_parts hf
            rw [if_pos (by simp [fits, f1, f2, f3])]
            exact hps
          · rw [if_neg hf] at hps; cases hps

/-- The terms of a list that may stand in any order. -/
def termsOf (lo hi : Int) (xs : List (Int × ByteArray)) : Option (List Tm) := if 60 < xs.length then none else rdAll lo hi false xs

theorem termsOf_ok {lo hi : Int} {xs : List (Int × ByteArray)} {ps : List Tm} (h : termsOf lo hi xs = some ps) : ps.length = xs.length ∧ xs.length ≤ 60 ∧ TmsOk lo hi ps := by
  unfold termsOf at h
  split at h
  · cases h
  · obtain ⟨h1, h2, _⟩ := rdAll_ok _ xs ps rfl h
    exact ⟨h1, by omega, h2⟩

theorem sum_of_terms {xs : List (Int × ByteArray)} {ps : List Tm} (h : termsOf 1 100 xs = some ps) (hd : Desc ps) : sumOf xs = some ps := by
  unfold termsOf at h
  unfold sumOf
  split at h
  · cases h
  · rename_i hn
    rw [if_neg hn]
    obtain ⟨h1, h2⟩ := rdAll_desc (lo := 1) (hi := 100) _ xs rfl
    cases hT : rdAll 1 100 true xs with
    | none => exact absurd hd (h1 hT ps h)
    | some qs => rw [h2 qs hT] at h; exact h
theorem sum_not_terms {xs : List (Int × ByteArray)} (h : termsOf 1 100 xs = none) : sumOf xs = none := by
  unfold termsOf at h
  unfold sumOf
  split at h
  · rename_i hn; rw [if_pos hn]
  · rename_i hn
    rw [if_neg hn]
    cases hT : rdAll 1 100 true xs with
    | none => rfl
    | some qs => rw [(rdAll_desc (lo := 1) (hi := 100) _ xs rfl).2 qs hT] at h; cases h
theorem sum_not_desc {xs : List (Int × ByteArray)} {ps : List Tm} (h : termsOf 1 100 xs = some ps) (hd : ¬ Desc ps) : sumOf xs = none := by
  cases hs : sumOf xs with
  | none => rfl
  | some qs =>
    have hnd : Desc qs := (sumOf_ok hs).2.2.2.1
    unfold sumOf at hs
    unfold termsOf at h
    split at h
    · cases h
    · rename_i hn
      rw [if_neg hn] at hs
      rw [(rdAll_desc (lo := 1) (hi := 100) _ xs rfl).2 qs hs] at h
      cases h
      exact absurd hnd hd

/-- A term as the model has it. -/
def tmS : Elt Tm where
  size := 3
  R w P p cs := ∃ (lb : ByteArray) (sa : Option Addr) (sn sc : Nat), cs = [.int .i64 p.1, .string lb, .slice sa sn sc] ∧ p.2.wf ∧ RepS w P p.2 (.string lb) (.slice sa sn sc)
  len := by rintro w P p cs ⟨lb, sa, sn, sc, rfl, _⟩; rfl
  one := by
    rintro w P p cs ⟨lb, sa, sn, sc, rfl, _⟩ u hu
    simp at hu
    rcases hu with rfl | rfl | rfl <;> rfl
  keep := by
    rintro w w' P P' p cs hk hp ⟨lb, sa, sn, sc, rfl, hw, hr⟩
    exact ⟨lb, sa, sn, sc, rfl, hw, hr.keep hk hp hw⟩

theorem tmS.get {w : World} {P : Nat → Prop} {a : Option Addr} {ps : List Tm} (h : Rd tmS w P a ps) (k : Nat) (hk : k < ps.length) :
    ∃ g lb sa sn sc, a = some ⟨g, 0, none⟩ ∧ P g ∧ w.cell? ⟨g, k * 3, none⟩ = some (.int .i64 (ps[k]).1) ∧ w.cell? ⟨g, k * 3 + 1, none⟩ = some (.string lb) ∧ w.cell? ⟨g, k * 3 + 2, none⟩ = some (.slice sa sn sc) ∧ (ps[k]).2.wf ∧ RepS w P (ps[k]).2 (.string lb) (.slice sa sn sc) := by
  obtain ⟨g, cs, e, hg, hc, lb, sa, sn, sc, rfl, hw, hr⟩ := h k hk
  exact ⟨g, lb, sa, sn, sc, e, hg, hc 0 (by decide), hc 1 (by decide), hc 2 (by decide), hw, hr⟩

/-- A tree with what the order compares, as the program has it. -/
def RkI (w : World) (P : Nat → Prop) (t : T) (x y z : Value) : Prop :=
  ∃ (ty : TypeId) (a : Addr) (g wc : Nat), x = .iface ty (.pointer (some a)) ∧ y = .slice (some ⟨g, 0, none⟩) (t.paths []).length wc ∧ z = .string ⟨t.text.toArray⟩ ∧ RepI w P t ty a ∧ P g ∧ Lies w (some ⟨g, 0, none⟩) (t.paths [])

theorem RkI.keep {w w' : World} {P P' : Nat → Prop} {t : T} {x y z : Value} (hw : t.wf) (hk : Keeps P w w') (hp : ∀ g, P g → g < w.heap.size → P' g) (h : RkI w P t x y z) : RkI w' P' t x y z := by
  obtain ⟨ty, a, g, wc, e1, e2, e3, hr, hg, hl⟩ := h
  have h0 : 0 < (t.paths []).length := by rw [paths_length]; exact leaves_pos t hw
  have hgl : g < w.heap.size := by
    obtain ⟨g', e, hc⟩ := hl 0 h0
    cases e
    exact World.block_lt_of_cell? w _ hc
  refine ⟨ty, a, g, wc, e1, e2, e3, hr.keep hk hp hw, hp g hg hgl, fun j hj => ?_⟩
  obtain ⟨g', e, hc⟩ := hl j hj
  cases e
  exact ⟨g, rfl, hk _ _ hg hc⟩

theorem RkI.below {w w' : World} {P : Nat → Prop} {t : T} {x y z : Value} (hw : t.wf) (hb : Below w.heap.size w w') (h : RkI w P t x y z) : RkI w' P t x y z :=
  h.keep hw (Keeps.of_below hb P) (fun _ h _ => h)

/-- A part of a combination, as the program has it. -/
def tmI : Elt Tm where
  size := 4
  R w P p cs := ∃ x y z, cs = [.int .i64 p.1, x, y, z] ∧ p.2.wf ∧ RkI w P p.2 x y z
  len := by rintro w P p cs ⟨x, y, z, rfl, _⟩; rfl
  one := by
    rintro w P p cs ⟨x, y, z, rfl, _, ty, a, g, wc, rfl, rfl, rfl, _⟩ u hu
    simp at hu
    rcases hu with rfl | rfl | rfl | rfl <;> rfl
  keep := by
    rintro w w' P P' p cs hk hp ⟨x, y, z, rfl, hw, hr⟩
    exact ⟨x, y, z, rfl, hw, hr.keep hw hk hp⟩

theorem tmI.get {w : World} {P : Nat → Prop} {a : Option Addr} {ps : List Tm} (h : Rd tmI w P a ps) (k : Nat) (hk : k < ps.length) :
    ∃ g x y z, a = some ⟨g, 0, none⟩ ∧ P g ∧ w.cell? ⟨g, k * 4, none⟩ = some (.int .i64 (ps[k]).1) ∧ w.cell? ⟨g, k * 4 + 1, none⟩ = some x ∧ w.cell? ⟨g, k * 4 + 2, none⟩ = some y ∧ w.cell? ⟨g, k * 4 + 3, none⟩ = some z ∧ (ps[k]).2.wf ∧ RkI w P (ps[k]).2 x y z := by
  obtain ⟨g, cs, e, hg, hc, x, y, z, rfl, hw, hr⟩ := h k hk
  exact ⟨g, x, y, z, e, hg, hc 0 (by decide), hc 1 (by decide), hc 2 (by decide), hc 3 (by decide), hw, hr⟩

/-- A term with its text. -/
def trm : Elt (Int × ByteArray) where
  size := 2
  R _ _ p cs := cs = [.int .i64 p.1, .string p.2]
  len := by rintro w P p cs rfl; rfl
  one := by
    rintro w P p cs rfl u hu
    simp at hu
    rcases hu with rfl | rfl <;> rfl
  keep := by rintro w w' P P' p cs _ _ rfl; rfl

/-- The texts of a sum's terms. -/
def txtTm (ps : List Tm) : List (Int × ByteArray) := ps.map fun p => (p.1, ⟨p.2.text.toArray⟩)

theorem txtTm_length (ps : List Tm) : (txtTm ps).length = ps.length := by simp [txtTm]

theorem trm.lies {w : World} {P : Nat → Prop} {g : Nat} {xs : List (Int × ByteArray)} (h : Rd trm w P (some ⟨g, 0, none⟩) xs) : TermL w g xs := fun j hj => by
  obtain ⟨g', cs, e, _, hc, rfl⟩ := h j hj
  cases e
  exact ⟨hc 0 (by decide), hc 1 (by decide)⟩

end Go.Proofs.YtoeebipahifpcaaGreat
