/- What SumGraft answers, plainly. No walk here. -/
import Derived.Test.YtlmedcmheninaaaSumX
import Derived.Test.YtlmedcmheninaaaPatM
namespace Go.Proofs.Ytlmedcmheninaaa
open Go.RowKit

/-- One tree grafted at the leaf k of another one. -/
def grf (k : Nat) (t u : T) : T := t.fill (oneIn t.leaves k u)
def grfRow (k : Nat) (p : Tm) (qs : List Tm) : List Tm := qs.map fun q => (p.1 * q.1, grf k p.2 q.2)
def grfTm (k : Nat) (ps qs : List Tm) : List Tm := ps.flatMap fun p => grfRow k p qs

theorem grfTm_take (k : Nat) (ps qs : List Tm) {i : Nat} (h : i < ps.length) : grfTm k (ps.take (i + 1)) qs = grfTm k (ps.take i) qs ++ grfRow k ps[i] qs := by
  rw [List.take_succ_eq_append_getElem h, grfTm, List.flatMap_append]; simp [grfTm]
theorem grfRow_take (k : Nat) (p : Tm) (qs : List Tm) {j : Nat} (h : j < qs.length) : grfRow k p (qs.take (j + 1)) = grfRow k p (qs.take j) ++ [(p.1 * (qs[j]).1, grf k p.2 (qs[j]).2)] := by
  rw [List.take_succ_eq_append_getElem h, grfRow, List.map_append]; rfl
theorem grfRow_length (k : Nat) (p : Tm) (qs : List Tm) : (grfRow k p qs).length = qs.length := by simp [grfRow]
theorem grfTm_length (k : Nat) (ps qs : List Tm) : (grfTm k ps qs).length = ps.length * qs.length := by
  induction ps with
  | nil => simp [grfTm]
  | cons p ps ih =>
    have e : grfTm k (p :: ps) qs = grfRow k p qs ++ grfTm k ps qs := by simp [grfTm]
    rw [e, List.length_append, ih, grfRow_length, List.length_cons, Nat.succ_mul]; omega

theorem grf_wf {k : Nat} {t u : T} (ht : t.wf) (hu : u.wf) : (grf k t u).wf := fill_wf t _ ht (oneIn_wf hu)
theorem grf_size {k : Nat} {t u : T} (hk : k < t.leaves) (ht : t.leaves ≤ 12 ∧ t.nodes ≤ 16) (hu : u.leaves ≤ 12 ∧ u.nodes ≤ 16) : (grf k t u).leaves ≤ 30 ∧ (grf k t u).nodes ≤ 40 := by
  have := graft_count (t := t) (u := u) hk
  unfold grf; omega

theorem grfTm_ok {k : Nat} {ps qs : List Tm} (hp : ∀ p ∈ ps, p.2.wf ∧ p.2.leaves ≤ 12 ∧ p.2.nodes ≤ 16 ∧ 1 ≤ p.1 ∧ p.1 ≤ 100) (hk : ∀ p ∈ ps, k < p.2.leaves) (hq : ∀ p ∈ qs, p.2.wf ∧ p.2.leaves ≤ 12 ∧ p.2.nodes ≤ 16 ∧ 1 ≤ p.1 ∧ p.1 ≤ 100) :
    ∀ r ∈ grfTm k ps qs, r.2.wf ∧ r.2.leaves ≤ 1000 ∧ r.2.nodes ≤ 1000 ∧ -1000000 ≤ r.1 ∧ r.1 ≤ 1000000 := fun r hr => by
  obtain ⟨p, hpp, hr2⟩ := List.mem_flatMap.1 hr
  obtain ⟨q, hqq, rfl⟩ := List.mem_map.1 hr2
  have h1 := hp p hpp
  have h2 := hq q hqq
  have h3 := grf_size (hk p hpp) ⟨h1.2.1, h1.2.2.1⟩ ⟨h2.2.1, h2.2.2.1⟩
  have h4 := Int.mul_le_mul_of_nonneg_right h1.2.2.2.2 (show 0 ≤ q.1 by omega)
  have h5 := Int.mul_nonneg (show 0 ≤ p.1 by omega) (show 0 ≤ q.1 by omega)
  exact ⟨grf_wf h1.1 h2.1, by show (grf k p.2 q.2).leaves ≤ 1000; omega, by show (grf k p.2 q.2).nodes ≤ 1000; omega, by show -1000000 ≤ p.1 * q.1; omega, by show p.1 * q.1 ≤ 1000000; omega⟩

/-- What SumGraft answers. -/
def grfOf (xs ys : List (Int × ByteArray)) (k : Int) : Option (List Tm) :=
  match sumOf xs, sumOf ys with
  | some ps, some qs =>
    match ps, qs with
    | [], _ => some []
    | _, [] => some []
    | p :: ps', q :: qs' => if 0 ≤ k ∧ k ≤ (p.2.leaves : Int) - 1 then outOf (canon (grfTm k.toNat (p :: ps') (q :: qs'))) else none
  | _, _ => none
theorem grfOf_len {xs ys : List (Int × ByteArray)} {k : Int} {qs : List Tm} (h : some qs = grfOf xs ys k) : qs.length ≤ 60 := by
  rw [grfOf] at h
  split at h
  · split at h
    · cases h; simp
    · cases h; simp
    · split at h
      · exact outOf_len h
      · cases h
  · cases h
end Go.Proofs.Ytlmedcmheninaaa
