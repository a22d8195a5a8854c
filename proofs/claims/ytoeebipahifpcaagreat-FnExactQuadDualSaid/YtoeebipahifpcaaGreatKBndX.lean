/- Merged out of: XBndI, XSumX. -/
import Derived.Test.YtoeebipahifpcaaGreatKComb
import Derived.Test.YtoeebipahifpcaaGreatKSumRJ
import Derived.Test.YtoeebipahifpcaaGreatGraftS
import Derived.Test.YtoeebipahifpcaaGreatKMirrorS
section
/- The program writes a sum out; SumOf by the program. -/
namespace Go.Proofs.YtoeebipahifpcaaGreat
open Go.RowKit

/-- May this be written out? -/
def bounded (qs : List Tm) : Bool := decide (qs.length ≤ 60) && qs.all (fun p => small p.2)

/-- The terms are handed back, new, or nothing is. -/
def TermsPost (o : Option (List Tm)) (w : World) (e : Ending) (w' : World) : Prop :=
  Below w.heap.size w w' ∧ ((o = none ∧ ∃ a c, e = .returned (.tuple #[.slice a 0 c, .bool false])) ∨
    ∃ qs g c cur, o = some qs ∧ e = .returned (.tuple #[.slice (some ⟨g, 0, none⟩) qs.length c, .bool true]) ∧ w.heap.size ≤ g ∧ w'.heap[g]? = some (.cells cur 73 (0, 0)) ∧ qs.length * 2 ≤ cur.size ∧ TermL w' g (txtTm qs))

theorem infoTm2 : (Tryz.prog.info? 73).map (fun i => (i.zero, i.size, i.bytes)) = some (some (.agg #[.int .i64 0, .string ⟨#[]⟩]), 2, 24) := by kernel_rfl

theorem bounded_long {qs : List Tm} (h : 60 < qs.length) : bounded qs = false := by
  rw [bounded, decide_eq_false (by omega)]; rfl
theorem bounded_big {qs : List Tm} {k : Nat} (hk : k < qs.length) (h : small (qs[k]).2 = false) : bounded qs = false := by
  rw [bounded]
  have : qs.all (fun p => small p.2) = false := by
    rw [List.all_eq_false]
    exact ⟨qs[k], List.getElem_mem hk, by rw [h]; simp⟩
  rw [this]; simp
theorem bounded_yes {qs : List Tm} (h : qs.length ≤ 60) (ha : ∀ k (hk : k < qs.length), small (qs[k]).2 = true) : bounded qs = true := by
  rw [bounded, decide_eq_true h, Bool.true_and, List.all_eq_true]
  intro p hp
  obtain ⟨k, hk, rfl⟩ := List.getElem_of_mem hp
  exact ha k hk

def outOf (qs : List Tm) : Option (List Tm) := if bounded qs = true then some qs else none

theorem txtTm_take {qs : List Tm} {k : Nat} (hk : k < qs.length) : txtTm (qs.take (k + 1)) = txtTm (qs.take k) ++ [((qs[k]).1, ⟨(qs[k]).2.text.toArray⟩)] := by
  rw [List.take_succ_eq_append_getElem hk]; simp only [txtTm, List.map_append, List.map_cons, List.map_nil]

/-- A row of terms that is the call's own: what a law wants of it. -/
theorem row_terms {base g n cap : Nat} {us : List (Int × ByteArray)} {xs : List Value} {w : World} (h : Row trm 73 base us (.slice (some ⟨g, 0, none⟩) n cap) xs w) :
    base ≤ g ∧ (∃ cur, w.heap[g]? = some (.cells cur 73 (0, 0)) ∧ us.length * 2 ≤ cur.size) ∧ TermL w g us := by
  refine ⟨?_, ?_, trm.lies h.rd⟩
  · obtain ⟨g', e, hb⟩ := owns_addr h.own (by simp)
    simp only [Option.some.injEq, Addr.mk.injEq] at e
    rw [e.1]; exact hb
  · rcases h.own.2 with ⟨e, _⟩ | ⟨g', cap', cur, e, _, hg, hn, _, hs, _⟩
    · cases e
    · simp only [Value.slice.injEq, Option.some.injEq, Addr.mk.injEq] at e
      obtain ⟨⟨rfl, _⟩, _, rfl⟩ := e
      exact ⟨cur, hg, by have h2 : cur.size = cap * 2 := hs
                         omega⟩

/-- What SumOf answers. -/
def ofList (xs : List (Int × ByteArray)) : Option (List Tm) :=
  match termsOf (-1000000) 1000000 xs with
  | none => none
  | some ps => outOf (canon ps)

theorem canon_tree {ps : List Tm} (h : ∀ p ∈ ps, p.2.wf ∧ p.2.leaves ≤ 1000 ∧ p.2.nodes ≤ 1000) : ∀ p ∈ canon ps, p.2.wf ∧ p.2.leaves ≤ 1000 ∧ p.2.nodes ≤ 1000 := fun p hp => by
  obtain ⟨q, hq, e⟩ := mem_canon hp
  rw [e]; exact h q hq

end Go.Proofs.YtoeebipahifpcaaGreat
end
section
/- What SumMirror, SumScale and SumAdd answer, plainly. No walk here. -/
namespace Go.Proofs.YtoeebipahifpcaaGreat
open Go.RowKit

theorem outOf_len {ps qs : List Tm} (h : some qs = outOf ps) : qs.length ≤ 60 := by
  rw [outOf] at h
  split at h
  · next hb =>
    have e := Option.some.inj h
    rw [← e] at hb
    by_cases h60 : 60 < qs.length
    · rw [bounded_long h60] at hb; cases hb
    · omega
  · cases h

def mirTm (ps : List Tm) : List Tm := ps.map fun p => (p.1, p.2.mirror)
def sclTm (m : Int) (ps : List Tm) : List Tm := ps.map fun p => (m * p.1, p.2)
def sclI (m : Int) (ps : List Tm) : List Tm := ps.map fun p => (p.1 * (m % 101), p.2)

theorem mirTm_length (ps : List Tm) : (mirTm ps).length = ps.length := by simp [mirTm]
theorem sclTm_length (m : Int) (ps : List Tm) : (sclTm m ps).length = ps.length := by simp [sclTm]
theorem sclI_length (m : Int) (ps : List Tm) : (sclI m ps).length = ps.length := by simp [sclI]

theorem addAll_mir (l ps : List Tm) {k : Nat} (hk : k < ps.length) : addAll l (mirTm (ps.take (k + 1))) = addT (addAll l (mirTm (ps.take k))) (ps[k]).1 (ps[k]).2.mirror := by
  rw [List.take_succ_eq_append_getElem hk, mirTm, List.map_append]
  exact addAll_snoc l (mirTm (ps.take k)) ((ps[k]).1, (ps[k]).2.mirror)
theorem addAll_scl (l ps : List Tm) (m : Int) {k : Nat} (hk : k < ps.length) : addAll l (sclTm m (ps.take (k + 1))) = addT (addAll l (sclTm m (ps.take k))) (m * (ps[k]).1) (ps[k]).2 := by
  rw [List.take_succ_eq_append_getElem hk, sclTm, List.map_append]
  exact addAll_snoc l (sclTm m (ps.take k)) (m * (ps[k]).1, (ps[k]).2)
theorem mirTm_take (ps : List Tm) {k : Nat} (hk : k < ps.length) : mirTm (ps.take (k + 1)) = mirTm (ps.take k) ++ [((ps[k]).1, (ps[k]).2.mirror)] := by
  rw [List.take_succ_eq_append_getElem hk, mirTm, List.map_append]; rfl
theorem sclI_take (ps : List Tm) (m : Int) {k : Nat} (hk : k < ps.length) : sclI m (ps.take (k + 1)) = sclI m (ps.take k) ++ [((ps[k]).1 * (m % 101), (ps[k]).2)] := by
  rw [List.take_succ_eq_append_getElem hk, sclI, List.map_append]; rfl

theorem canon_scl {ps : List Tm} (m : Int) (h : ∀ p ∈ ps, p.2.wf) : canon (sclI m ps) = canon (sclTm m ps) := by
  refine canon_congr (fun p hp => ?_) (fun p hp => ?_) (fun t => cf_map_congr ps (fun p => (p.1 * (m % 101), p.2)) (fun p => (m * p.1, p.2)) (fun p => ⟨rfl, ?_⟩) t)
  · obtain ⟨q, hq, rfl⟩ := List.mem_map.1 hp; exact h q hq
  · obtain ⟨q, hq, rfl⟩ := List.mem_map.1 hp; exact h q hq
  · show (p.1 * (m % 101) - m * p.1) % 101 = 0
    rw [Int.mul_comm m p.1, ← Int.mul_sub, Int.mul_emod, show (m % 101 - m) % 101 = 0 by omega, Int.mul_zero]; rfl
theorem sclTm_one (ps : List Tm) : sclTm 1 ps = ps := by simp [sclTm]

theorem mirTm_ok {ps : List Tm} {L N : Nat} (h : ∀ p ∈ ps, p.2.wf ∧ p.2.leaves ≤ L ∧ p.2.nodes ≤ N) : ∀ p ∈ mirTm ps, p.2.wf ∧ p.2.leaves ≤ L ∧ p.2.nodes ≤ N := fun p hp => by
  obtain ⟨q, hq, rfl⟩ := List.mem_map.1 hp
  have h1 := h q hq
  have h2 := mirror_size q.2
  exact ⟨mirror_wf _ h1.1, by show q.2.mirror.leaves ≤ L; omega, by show q.2.mirror.nodes ≤ N; omega⟩

/-- The trees of a sum that has been read. -/
theorem sum_trees {xs : List (Int × ByteArray)} {ps : List Tm} (h : sumOf xs = some ps) : ps.length ≤ 60 ∧ (∀ p ∈ ps, p.2.wf ∧ p.2.leaves ≤ 12 ∧ p.2.nodes ≤ 16 ∧ 1 ≤ p.1 ∧ p.1 ≤ 100) ∧ NF ps := by
  obtain ⟨h1, h2, h3, h4⟩ := sumOf_ok h
  exact ⟨by omega, fun p hp => ⟨(h3.tree p hp).1, (h3.tree p hp).2.1, (h3.tree p hp).2.2, (h3.coef p hp).1, (h3.coef p hp).2⟩, h4⟩

/-- What SumMirror answers. -/
def mirOf (xs : List (Int × ByteArray)) : Option (List Tm) :=
  match sumOf xs with
  | none => none
  | some ps => outOf (canon (mirTm ps))
/-- What SumScale answers. -/
def sclOf (xs : List (Int × ByteArray)) (m : Int) : Option (List Tm) :=
  match sumOf xs with
  | none => none
  | some ps => if -1000000 ≤ m ∧ m ≤ 1000000 then outOf (canon (sclTm m ps)) else none
/-- Do the trees of two sums go together? -/
def alike (ps qs : List Tm) : Bool :=
  match ps, qs with
  | p :: _, q :: _ => decide (p.2.leaves = q.2.leaves)
  | _, _ => true
/-- What SumAdd answers. -/
def addOf (xs ys : List (Int × ByteArray)) : Option (List Tm) :=
  match sumOf xs, sumOf ys with
  | some ps, some qs => if alike ps qs = true then outOf (canon (ps ++ qs)) else none
  | _, _ => none

theorem mirOf_len {xs : List (Int × ByteArray)} {qs : List Tm} (h : some qs = mirOf xs) : qs.length ≤ 60 := by
  rw [mirOf] at h
  split at h
  · cases h
  · exact outOf_len h
theorem sclOf_len {xs : List (Int × ByteArray)} {m : Int} {qs : List Tm} (h : some qs = sclOf xs m) : qs.length ≤ 60 := by
  rw [sclOf] at h
  split at h
  · cases h
  · split at h
    · exact outOf_len h
    · cases h
theorem addOf_len {xs ys : List (Int × ByteArray)} {qs : List Tm} (h : some qs = addOf xs ys) : qs.length ≤ 60 := by
  rw [addOf] at h
  split at h
  · split at h
    · exact outOf_len h
    · cases h
  · cases h
end Go.Proofs.YtoeebipahifpcaaGreat
end
