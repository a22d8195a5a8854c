/- Merged out of: XCoef, XCoefS. -/
import Derived.Test.YtapobhnhnldlkaaGreatKSumRJ
import Derived.Test.YtapobhnhnldlkaaGreatKBndX
import Derived.Deep.RegionHeld3
import Derived.Deep.QuietTactic
import Derived.BigQuiet
import Derived.Laws.EntriesVeiled
section
/- The coefficient of a tree in a sum, by a binary search: SumCoef. -/
namespace Go.Proofs.YtapobhnhnldlkaaGreat
open Go.RowKit

theorem cf_at : ∀ {l : List Tm} (_h : l.Pairwise (fun p q => 0 < ordT p.2 q.2)) (k : Nat) (hk : k < l.length) (t : T), ordT (l[k]).2 t = 0 → cf l t = (l[k]).1
  | [], _, _, hk, _, _ => by simp at hk
  | p :: r, h, 0, _, t, h0 => by
    simp only [List.getElem_cons_zero] at h0 ⊢
    rw [cf, if_pos h0, cf_none]
    · omega
    · intro q hq e
      have h1 := (List.pairwise_cons.1 h).1 q hq
      have h2 := isCmp_ordT.zero h0 (show ordT t q.2 = 0 by have := isCmp_ordT.anti q.2 t; omega)
      omega
  | p :: r, h, k + 1, hk, t, h0 => by
    simp only [List.getElem_cons_succ] at h0 ⊢
    have hk' : k < r.length := by simpa using hk
    have h1 := (List.pairwise_cons.1 h).1 (r[k]) (List.getElem_mem hk')
    rw [cf, if_neg, cf_at (List.pairwise_cons.1 h).2 k hk' t h0]
    · omega
    · intro e
      have h2 := isCmp_ordT.zero e (show ordT t (r[k]).2 = 0 by have := isCmp_ordT.anti (r[k]).2 t; omega)
      omega

theorem desc_get {ps : List Tm} (h : ps.Pairwise (fun p q => 0 < ordT p.2 q.2)) (i j : Nat) (hi : i < ps.length) (hj : j < ps.length) (hij : i < j) : 0 < ordT (ps[i]).2 (ps[j]).2 := List.pairwise_iff_getElem.1 h i j hi hj hij

/-- What the search answers. -/
def FoundPost (ps : List Tm) (t : T) (w : World) (e : Ending) (w' : World) : Prop :=
  Grew w w' ∧ ∃ (i : Nat) (f : Bool), e = .returned (.tuple #[.int .i64 i, .bool f]) ∧ i ≤ ps.length ∧ (f = true → ∃ h : i < ps.length, ordT (ps[i]).2 t = 0) ∧ (f = false → ∀ m (h : m < ps.length), ordT (ps[m]).2 t ≠ 0)

/-- What SumCoef answers. -/
def coefV (xs : List (Int × ByteArray)) (s : ByteArray) : Int :=
  match sumOf xs, parse s.data.toList with
  | some ps, some t => cf ps t
  | _, _ => -1
theorem coefV_no1 {xs : List (Int × ByteArray)} {s : ByteArray} (h : sumOf xs = none) : coefV xs s = -1 := by rw [coefV, h]
theorem coefV_no2 {xs : List (Int × ByteArray)} {s : ByteArray} (h : parse s.data.toList = none) : coefV xs s = -1 := by
  rw [coefV, h]; split
  · next h1 h2 => cases h2
  · rfl
theorem coefV_yes {xs : List (Int × ByteArray)} {s : ByteArray} {ps : List Tm} {t : T} (h : sumOf xs = some ps) (h2 : parse s.data.toList = some t) : coefV xs s = cf ps t := by rw [coefV, h, h2]

end Go.Proofs.YtapobhnhnldlkaaGreat
end
section
/- SumCoef by the model; its law. -/
namespace Go.Proofs.YtapobhnhnldlkaaGreat
open Go.RowKit

theorem rdAll_get {lo hi : Int} {D : Bool} : ∀ (n : Nat) (xs : List (Int × ByteArray)) (ps : List Tm), xs.length = n → rdAll lo hi D xs = some ps → ∀ i (h : i < xs.length) (h2 : i < ps.length), parse (xs[i]).2.data.toList = some (ps[i]).2 ∧ (ps[i]).1 = (xs[i]).1 := by
  intro n
  induction n with
  | zero => intro xs ps hl _ i h; omega
  | succ n ih =>
    intro xs ps hl hr i h h2
    have hlt : n < xs.length := by omega
    have ht : xs.take (n + 1) = xs := by rw [← hl, List.take_length]
    have hr0 := hr
    rw [← ht, rdAll_take hlt] at hr
    cases hp : rdAll lo hi D (xs.take n) with
    | none => rw [hp, rdStep_none] at hr; cases hr
    | some qs =>
      rw [hp] at hr
      have hql : qs.length = n := by
        have := (rdAll_ok _ _ _ rfl hp).1
        rw [List.length_take] at this; omega
      cases ht2 : parse (xs[n]).2.data.toList with
      | none => rw [rdStep_no ht2] at hr; cases hr
      | some t =>
        rw [rdStep_tree ht2] at hr
        split at hr
        · simp only [Option.some.injEq] at hr
          subst hr
          by_cases hin : i < n
          · have := ih (xs.take n) qs (by rw [List.length_take]; omega) hp i (by rw [List.length_take]; omega) (by omega)
            rw [List.getElem_take] at this
            rw [List.getElem_append_left (by omega)]
            exact this
          · have hie : i = n := by omega
            subst hie
            rw [List.getElem_append_right (by omega)]
            simp only [hql, Nat.sub_self, List.getElem_singleton]
            exact ⟨ht2, trivial⟩
        · cases hr

theorem sum_get {xs : List (Int × ByteArray)} {ps : List Tm} (h : sumOf xs = some ps) (i : Nat) (hi : i < xs.length) (hi2 : i < ps.length) : parse (xs[i]).2.data.toList = some (ps[i]).2 ∧ (ps[i]).1 = (xs[i]).1 := by
  rw [sumOf] at h
  split at h
  · cases h
  · exact rdAll_get _ xs ps rfl h i hi hi2

theorem txt_same (p q : ByteArray) : (p.toList == q.toList) = decide (p = q) := by
  rw [ByteArray.toList_eq, ByteArray.toList_eq]
  by_cases h : p = q
  · subst h; simp
  · have : ¬ p.data = q.data := fun e => h (ByteArray.ext e)
    simp [h, this]

/-- The first term with this text has the tree's coefficient. -/
theorem coef_here {xs : List (Int × ByteArray)} {ps : List Tm} {s : ByteArray} {t : T} (h : sumOf xs = some ps) (hs : parse s.data.toList = some t) (i : Nat) (hi : i < xs.length) (e : (xs[i]).2 = s) : coefV xs s = (xs[i]).1 := by
  have hl := (sumOf_ok h).1
  obtain ⟨h1, h2⟩ := sum_get h i hi (by omega)
  rw [e, hs, Option.some.injEq] at h1
  rw [coefV_yes h hs, cf_at (sum_trees h).2.2.1 i (by omega) t (by rw [← h1]; exact isCmp_ordT.self _), h2]
theorem coef_nowhere {xs : List (Int × ByteArray)} {ps : List Tm} {s : ByteArray} {t : T} (h : sumOf xs = some ps) (hs : parse s.data.toList = some t) (hn : ∀ i (hi : i < xs.length), (xs[i]).2 ≠ s) : coefV xs s = 0 := by
  have hl := (sumOf_ok h).1
  rw [coefV_yes h hs]
  refine cf_none (fun p hp h0 => ?_)
  obtain ⟨k, hk, rfl⟩ := List.getElem_of_mem hp
  obtain ⟨h1, h2⟩ := sum_get h k (by omega) hk
  have hw := parse_some h1
  have hw2 := parse_some hs
  have e := ordT_zero hw.1 hw2.1 h0
  refine hn k (by omega) (ByteArray.ext (Array.toList_inj.1 ?_))
  rw [hw.2.1, hw2.2.1, e]

end Go.Proofs.YtapobhnhnldlkaaGreat
end
