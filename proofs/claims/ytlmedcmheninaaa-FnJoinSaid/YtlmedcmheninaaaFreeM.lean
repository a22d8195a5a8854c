/- Free of patterns: plain mathematics, and the programs' answers. -/
import Derived.Test.YtlmedcmheninaaaKStand
import Derived.Test.YtlmedcmheninaaaPutI
namespace Go.Proofs.Ytlmedcmheninaaa
open Go.RowKit

theorem flatten_nil_iff {ps : List T} {x : T} {a k : Nat} (hk : k ≤ ps.length) : stRow ps x a k = [] ↔ ∀ i (h : i < ps.length), i < k → (ps[i]).partsOf x = none := by
  induction k with
  | zero => simp [stRow]
  | succ k ih =>
    rw [stRow_succ, List.append_eq_nil_iff, ih (by omega)]
    constructor
    · rintro ⟨h1, h2⟩ i hi hlt
      by_cases e : i = k
      · subst e
        cases hp : (ps[i]).partsOf x with
        | none => rfl
        | some ts => rw [stOf_some hi hp] at h2; simp at h2
      · exact h1 i hi (by omega)
    · intro h
      refine ⟨fun i hi hlt => h i hi (by omega), ?_⟩
      rw [stOf_none (show k < ps.length by omega) (h k (by omega) (by omega))]
      rfl

/-- Does a pattern stand in a tree? -/
def inOf (p t : T) : Bool := t.subs.any fun q => (p.partsOf q).isSome

theorem stUp_nil_iff {ps : List T} : ∀ (xs : List T) (a : Nat), stUp ps xs a = [] ↔ ∀ x ∈ xs, ∀ p ∈ ps, p.partsOf x = none
  | [], _ => by simp [stUp]
  | x :: xs, a => by
    rw [stUp, List.append_eq_nil_iff, flatten_nil_iff (Nat.le_refl _), stUp_nil_iff xs (a + 1)]
    constructor
    · rintro ⟨h1, h2⟩ y hy p hp
      rcases List.mem_cons.1 hy with rfl | hy
      · obtain ⟨i, hi, rfl⟩ := List.getElem_of_mem hp
        exact h1 i hi hi
      · exact h2 y hy p hp
    · intro h
      exact ⟨fun i hi _ => h x (by simp) _ (List.getElem_mem hi), fun y hy p hp => h y (by simp [hy]) p hp⟩

theorem stAll_free (ps : List T) (t : T) : (stAll ps t).isEmpty = ps.all (fun p => !inOf p t) := by
  have h : (stAll ps t).isEmpty = true ↔ ps.all (fun p => !inOf p t) = true := by
    rw [List.isEmpty_iff, stAll, stUp_nil_iff, List.all_eq_true]
    constructor
    · intro h p hp
      simp only [inOf, Bool.not_eq_true', List.any_eq_false, Option.not_isSome_iff_eq_none]
      exact fun q hq => h q hq p hp
    · intro h q hq p hp
      have := h p hp
      simp only [inOf, Bool.not_eq_true', List.any_eq_false, Option.not_isSome_iff_eq_none] at this
      exact this q hq
  exact Bool.eq_iff_iff.2 h

/-- What PatternFree answers. -/
def freeV (xs : List ByteArray) (s : ByteArray) : Bool :=
  match patsOf xs, parse s.data.toList with
  | some ps, some t => ps.all (fun p => !inOf p t)
  | _, _ => false
/-- What PatternIn answers. -/
def inV (pat s : ByteArray) : Bool :=
  match patOf pat, parse s.data.toList with
  | some p, some t => inOf p t
  | _, _ => false

theorem patsOf_ok {xs : List ByteArray} {ps : List T} (h : patsOf xs = some ps) : ps.length = xs.length ∧ xs.length ≤ 20 ∧ ∀ p ∈ ps, p.wf ∧ p.leaves ≤ 12 ∧ p.nodes ≤ 16 ∧ ∃ c ks, p = .node c ks := by
  unfold patsOf at h
  split at h
  · cases h
  · have := patAll_ok xs.length xs ps rfl h
    exact ⟨this.1, by omega, this.2⟩

set_option maxRecDepth 100000 in
set_option maxHeartbeats 1000000 in
theorem iFree_any (xs : List ByteArray) (n : Nat) (hnx : n = xs.length) (g cap : Nat) (s : ByteArray) (w : World) (hn : n ≤ 1048576) (hz : ∀ j (h : j < xs.length), (xs[j]).size ≤ 1048576) (hs : s.size ≤ 1048576) (hl : TxL w g xs) :
    Calls Try.prog 41 #[.slice (some ⟨g, 0, none⟩) n cap, .string s] w (Ans (.bool (freeV xs s)) w) := by
  have HP := Lib.hid (readPatterns_any xs n hnx g cap w hn hz hl)
  have HT := Lib.hid (fun (W : World) => readTree_any s W (by omega))
  clear hnx hz hl
  go_enter Try.func41, Try.ntmps41
  go_wp2_with fail
  refine HP.out.mono ?_
  rintro e w1 ⟨hB1, ⟨hno, rfl⟩ | ⟨ps, gp, cp, hyes, rfl, hrd⟩⟩
  · have HN : Hid (freeV xs s = false) := Lib.hid (by rw [freeV, hno])
    clear hno
    go_wp2_with fail
    go_ret
    exact ⟨by rw [HN.out]; rfl, hB1⟩
  · obtain ⟨hpl, hx20, hpp⟩ := patsOf_ok hyes
    have HY := Lib.hid hyes
    have HRD := Lib.hid hrd
    have HPP := Lib.hid hpp
    obtain ⟨np, hnp⟩ : ∃ np, np = ps.length := ⟨_, rfl⟩
    have hnp20 : np ≤ 20 := by omega
    rw [← hnp]
    have HNP := Lib.hid hnp
    clear hyes hrd hpp hnp hpl
    go_wp2_with fail
    refine (HT.out w1).mono ?_
    rintro e w2 ⟨hB2, ⟨hno, rfl⟩ | ⟨t, ty, a, hyes, rfl, hrep⟩⟩
    · have HN : Hid (freeV xs s = false) := Lib.hid (by rw [freeV, HY.out, hno])
      clear hno
      go_wp2_with fail
      go_ret
      exact ⟨by rw [HN.out]; rfl, below_step hB1 hB2⟩
    · obtain ⟨htw, _, htl, htn⟩ := parse_some hyes
      have HN : Hid (freeV xs s = (stAll ps t).isEmpty) := Lib.hid (by rw [freeV, HY.out, hyes, stAll_free])
      have HF := Lib.hid (isFree_any ps t np gp cp HNP.out (by omega) ty a w2 ((HRD.out.below (by decide) hB2).weak (by decide) (fun _ _ h => h)) (fun p hp => by have := HPP.out p hp; omega) htw ⟨htl, htn⟩ (hrep.keep (fun _ _ _ h => h) (fun _ _ h => h) htw))
      have HB2 := Lib.hid (below_step hB1 hB2)
      clear hyes hrep hB2 hB1
      go_wp2_with fail
      refine HF.out.mono ?_
      rintro e w3 ⟨hB3, rfl⟩
      go_wp2_with fail
      go_ret
      exact ⟨by rw [HN.out]; rfl, below_step HB2.out hB3⟩

set_option maxRecDepth 100000 in
set_option maxHeartbeats 1000000 in
theorem iIn_any (pat s : ByteArray) (w : World) (hp : pat.size ≤ 1048576) (hs : s.size ≤ 1048576) :
    Calls Try.prog 35 #[.string pat, .string s] w (Ans (.bool (inV pat s)) w) := by
  have HP := Lib.hid (readPT_any pat s w hp hs)
  go_enter Try.func35, Try.ntmps35
  go_wp2_with fail
  refine HP.out.mono ?_
  rintro e w1 ⟨hB1, ⟨hno, rfl⟩ | ⟨p, t, a, ty, b, hyx, hyt, rfl, hr1, hr2⟩⟩
  · have HN : Hid (inV pat s = false) := Lib.hid (by
      rw [inV]
      rcases hno with h | h
      · rw [h]
      · rw [h]; cases patOf pat <;> rfl)
    clear hno
    go_wp2_with fail
    go_ret
    exact ⟨by rw [HN.out]; rfl, hB1⟩
  · obtain ⟨hpw, _, hpl, hpn⟩ := parse_some (patOf_some hyx).1
    obtain ⟨htw, _, htl, htn⟩ := parse_some hyt
    have HN : Hid (inV pat s = !(stAll [p] t).isEmpty) := Lib.hid (by rw [inV, hyx, hyt, stAll_free]; simp)
    have hX : Below w1.heap.size w1 (w1.alloc (.cells #[.pointer (some a)] 120 (0, 0))) := (Below.refl _ _).alloc (Nat.le_refl _) _
    have hc := Lib.cell_of_heap (heap_alloc_new w1 (.cells #[.pointer (some a)] 120 (0, 0))) (j := 0)
    have HF := Lib.hid (isFree_any [p] t 1 w1.heap.size 1 rfl (by omega) ty b (w1.alloc (.cells #[.pointer (some a)] 120 (0, 0))) (fun k hk => by
      have hk0 : k = 0 := by simp at hk; omega
      subst hk0
      refine ⟨w1.heap.size, [.pointer (some a)], rfl, by simp, fun j hj => ?_, a, rfl, hpw, (hr1.below hpw hX).keep (fun _ _ _ h => h) (fun _ _ h => h) hpw⟩
      have hj0 : j = 0 := by have : j < 1 := hj
                             omega
      subst hj0
      exact hc) (fun q hq => by simp at hq; subst hq; omega) htw ⟨htl, htn⟩ ((hr2.below htw hX).keep (fun _ _ _ h => h) (fun _ _ h => h) htw))
    have HB := Lib.hid (hB1.alloc hB1.size (.cells #[.pointer (some a)] 120 (0, 0)))
    clear hyx hyt hr1 hr2 hX hc hB1
    go_wp2_with fail
    refine HF.out.mono ?_
    rintro e w3 ⟨hB3, rfl⟩
    go_wp2_with fail
    go_ret
    exact ⟨by rw [HN.out]; rfl, below_step HB.out hB3⟩
end Go.Proofs.Ytlmedcmheninaaa
