/- What SumMirror, SumScale and SumAdd answer, plainly. No walk here. -/
import Derived.Test.YtipodlckehodnaaBndI
import Derived.Test.YtipodlckehodnaaKMirrorS
namespace Go.Proofs.Ytipodlckehodnaa
open Go.RowKit

theorem outOf_len {ps qs : List Tm} (h : some qs = outOf ps) : qs.length ≤ 60 := by
  rw [outOf] at h
  split at h
  · next hb =>
    have e := Option.some.inj h
    rw [← e] at hb
    by_cases h60 : 60 < qs.length
    · rw [bounded_long h60] at hb; cases hb
    · omega
  · cases h

def mirTm (ps : List Tm) : List Tm := ps.map fun p => (p.1, p.2.mirror)
def sclTm (m : Int) (ps : List Tm) : List Tm := ps.map fun p => (m * p.1, p.2)
def sclI (m : Int) (ps : List Tm) : List Tm := ps.map fun p => (p.1 * (m % 101), p.2)

theorem mirTm_length (ps : List Tm) : (mirTm ps).length = ps.length := by simp [mirTm]
theorem sclTm_length (m : Int) (ps : List Tm) : (sclTm m ps).length = ps.length := by simp [sclTm]
theorem sclI_length (m : Int) (ps : List Tm) : (sclI m ps).length = ps.length := by simp [sclI]

theorem addAll_mir (l ps : List Tm) {k : Nat} (hk : k < ps.length) : addAll l (mirTm (ps.take (k + 1))) = addT (addAll l (mirTm (ps.take k))) (ps[k]).1 (ps[k]).2.mirror := by
  rw [List.take_succ_eq_append_getElem hk, mirTm, List.map_append]
  exact addAll_snoc l (mirTm (ps.take k)) ((ps[k]).1, (ps[k]).2.mirror)
theorem addAll_scl (l ps : List Tm) (m : Int) {k : Nat} (hk : k < ps.length) : addAll l (sclTm m (ps.take (k + 1))) = addT (addAll l (sclTm m (ps.take k))) (m * (ps[k]).1) (ps[k]).2 := by
  rw [List.take_succ_eq_append_getElem hk, sclTm, List.map_append]
  exact addAll_snoc l (sclTm m (ps.take k)) (m * (ps[k]).1, (ps[k]).2)
theorem mirTm_take (ps : List Tm) {k : Nat} (hk : k < ps.length) : mirTm (ps.take (k + 1)) = mirTm (ps.take k) ++ [((ps[k]).1, (ps[k]).2.mirror)] := by
  rw [List.take_succ_eq_append_getElem hk, mirTm, List.map_append]; rfl
theorem sclI_take (ps : List Tm) (m : Int) {k : Nat} (hk : k < ps.length) : sclI m (ps.take (k + 1)) = sclI m (ps.take k) ++ [((ps[k]).1 * (m % 101), (ps[k]).2)] := by
  rw [List.take_succ_eq_append_getElem hk, sclI, List.map_append]; rfl

theorem canon_scl {ps : List Tm} (m : Int) (h : ∀ p ∈ ps, p.2.wf) : canon (sclI m ps) = canon (sclTm m ps) := by
  refine canon_congr (fun p hp => ?_) (fun p hp => ?_) (fun t => cf_map_congr ps (fun p => (p.1 * (m % 101), p.2)) (fun p => (m * p.1, p.2)) (fun p => ⟨rfl, ?_⟩) t)
  · obtain ⟨q, hq, rfl⟩ := List.mem_map.1 hp; exact h q hq
  · obtain ⟨q, hq, rfl⟩ := List.mem_map.1 hp; exact h q hq
  · show (p.1 * (m % 101) - m * p.1) % 101 = 0
    rw [Int.mul_comm m p.1, ← Int.mul_sub, Int.mul_emod, show (m % 101 - m) % 101 = 0 by omega, Int.mul_zero]; rfl
theorem sclTm_one (ps : List Tm) : sclTm 1 ps = ps := by simp [sclTm]

theorem mirTm_ok {ps : List Tm} {L N : Nat} (h : ∀ p ∈ ps, p.2.wf ∧ p.2.leaves ≤ L ∧ p.2.nodes ≤ N) : ∀ p ∈ mirTm ps, p.2.wf ∧ p.2.leaves ≤ L ∧ p.2.nodes ≤ N := fun p hp => by
  obtain ⟨q, hq, rfl⟩ := List.mem_map.1 hp
  have h1 := h q hq
  have h2 := mirror_size q.2
  exact ⟨mirror_wf _ h1.1, by show q.2.mirror.leaves ≤ L; omega, by show q.2.mirror.nodes ≤ N; omega⟩

/-- The trees of a sum that has been read. -/
theorem sum_trees {xs : List (Int × ByteArray)} {ps : List Tm} (h : sumOf xs = some ps) : ps.length ≤ 60 ∧ (∀ p ∈ ps, p.2.wf ∧ p.2.leaves ≤ 12 ∧ p.2.nodes ≤ 16 ∧ 1 ≤ p.1 ∧ p.1 ≤ 100) ∧ NF ps := by
  obtain ⟨h1, h2, h3, h4⟩ := sumOf_ok h
  exact ⟨by omega, fun p hp => ⟨(h3.tree p hp).1, (h3.tree p hp).2.1, (h3.tree p hp).2.2, (h3.coef p hp).1, (h3.coef p hp).2⟩, h4⟩

/-- What SumMirror answers. -/
def mirOf (xs : List (Int × ByteArray)) : Option (List Tm) :=
  match sumOf xs with
  | none => none
  | some ps => outOf (canon (mirTm ps))
/-- What SumScale answers. -/
def sclOf (xs : List (Int × ByteArray)) (m : Int) : Option (List Tm) :=
  match sumOf xs with
  | none => none
  | some ps => if -1000000 ≤ m ∧ m ≤ 1000000 then outOf (canon (sclTm m ps)) else none
/-- Do the trees of two sums go together? -/
def alike (ps qs : List Tm) : Bool :=
  match ps, qs with
  | p :: _, q :: _ => decide (p.2.leaves = q.2.leaves)
  | _, _ => true
/-- What SumAdd answers. -/
def addOf (xs ys : List (Int × ByteArray)) : Option (List Tm) :=
  match sumOf xs, sumOf ys with
  | some ps, some qs => if alike ps qs = true then outOf (canon (ps ++ qs)) else none
  | _, _ => none

theorem mirOf_len {xs : List (Int × ByteArray)} {qs : List Tm} (h : some qs = mirOf xs) : qs.length ≤ 60 := by
  rw [mirOf] at h
  split at h
  · cases h
  · exact outOf_len h
theorem sclOf_len {xs : List (Int × ByteArray)} {m : Int} {qs : List Tm} (h : some qs = sclOf xs m) : qs.length ≤ 60 := by
  rw [sclOf] at h
  split at h
  · cases h
  · split at h
    · exact outOf_len h
    · cases h
theorem addOf_len {xs ys : List (Int × ByteArray)} {qs : List Tm} (h : some qs = addOf xs ys) : qs.length ≤ 60 := by
  rw [addOf] at h
  split at h
  · split at h
    · exact outOf_len h
    · cases h
  · cases h
end Go.Proofs.Ytipodlckehodnaa
