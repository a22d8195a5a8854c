/- Terms and the texts that they are read from. No walk here. -/
import Derived.Test.YtoeebipahifpcaaGreatKBndX
namespace Go.Proofs.YtoeebipahifpcaaGreat

/-- These terms are read from these texts. -/
def Reads (xs : List (Int × ByteArray)) (ps : List Tm) : Prop := xs.map (fun x => (x.1, parse x.2.data.toList)) = ps.map (fun p => (p.1, some p.2))
def Same (ps : List Tm) : Prop := ∀ p ∈ ps, ∀ q ∈ ps, p.2.leaves = q.2.leaves

theorem Reads.length {xs : List (Int × ByteArray)} {ps : List Tm} (h : Reads xs ps) : xs.length = ps.length := by
  have := congrArg List.length h
  simpa using this

theorem rdAll_reads {lo hi : Int} : ∀ (n : Nat) (xs : List (Int × ByteArray)) (ps : List Tm), xs.length = n → rdAll lo hi false xs = some ps → Reads xs ps := by
  intro n
  induction n with
  | zero =>
    intro xs ps hn h
    have : xs = [] := List.length_eq_zero_iff.1 hn
    subst this
    rw [rdAll_nil] at h
    cases h; rfl
  | succ n ih =>
    intro xs ps hn h
    have e : xs = xs.take n ++ [xs[n]] := by rw [← List.take_succ_eq_append_getElem (by omega), List.take_of_length_le (by omega)]
    have hl : (xs.take n).length = n := by rw [List.length_take]; omega
    generalize xs.take n = ys at e hl
    generalize xs[n] = x at e
    subst e
    rw [rdAll_snoc] at h
    cases hr : rdAll lo hi false ys with
    | none => rw [hr] at h; cases h
    | some qs =>
      have i1 := ih ys qs hl hr
      rw [hr] at h
      cases hp : parse x.2.data.toList with
      | none => rw [rdStep_no hp] at h; cases h
      | some t =>
        rw [rdStep_tree hp] at h
        split at h
        · cases h
          unfold Reads at i1 ⊢
          rw [List.map_append, List.map_append, i1]
          simp [hp]
        · cases h

theorem reads_rdAll {lo hi : Int} : ∀ (n : Nat) (xs : List (Int × ByteArray)) (ps : List Tm), xs.length = n → Reads xs ps → Same ps → (∀ p ∈ ps, lo ≤ p.1 ∧ p.1 ≤ hi) → rdAll lo hi false xs = some ps := by
  intro n
  induction n with
  | zero =>
    intro xs ps hn h _ _
    have : xs = [] := List.length_eq_zero_iff.1 hn
    subst this
    have hl := h.length
    have : ps = [] := List.length_eq_zero_iff.1 (by simpa using hl.symm)
    subst this; rfl
  | succ n ih =>
    intro xs ps hn h hs hr
    have hl := h.length
    have e : xs = xs.take n ++ [xs[n]] := by rw [← List.take_succ_eq_append_getElem (by omega), List.take_of_length_le (by omega)]
    have e2 : ps = ps.take n ++ [ps[n]] := by rw [← List.take_succ_eq_append_getElem (by omega), List.take_of_length_le (by omega)]
    have l1 : (xs.take n).length = n := by rw [List.length_take]; omega
    have l2 : (ps.take n).length = n := by rw [List.length_take]; omega
    generalize xs.take n = ys at e l1
    generalize xs[n] = x at e
    generalize ps.take n = qs at e2 l2
    generalize ps[n] = p at e2
    subst e
    subst e2
    unfold Reads at h
    rw [List.map_append, List.map_append] at h
    obtain ⟨h1, h2⟩ := List.append_inj h (by simp [l1, l2])
    simp only [List.map_cons, List.map_nil, List.cons.injEq, and_true, Prod.mk.injEq] at h2
    rw [rdAll_snoc, ih ys qs l1 h1 (fun a ha b hb => hs a (by simp [ha]) b (by simp [hb])) (fun a ha => hr a (by simp [ha])), rdStep_tree h2.2, if_pos]
    · rw [h2.1]
    · have hp := hr p (by simp)
      have hf : fitsHd qs p.2 = true := by
        cases qs with
        | nil => rfl
        | cons q qs => simp only [fitsHd, decide_eq_true_eq]; exact hs p (by simp) q (by simp)
      rw [h2.1]
      simp [fits, hp.1, hp.2, hf]

theorem Reads.txt : ∀ {xs : List (Int × ByteArray)} {ps : List Tm}, Reads xs ps → txtTm ps = xs
  | [], [], _ => rfl
  | [], p :: ps, h => by cases h
  | x :: xs, [], h => by cases h
  | x :: xs, p :: ps, h => by
    unfold Reads at h
    simp only [List.map_cons, List.cons.injEq, Prod.mk.injEq] at h
    have ih := Reads.txt (xs := xs) (ps := ps) h.2
    have ht := (parse_some h.1.2).2.1
    simp only [txtTm, List.map_cons, List.cons.injEq]
    refine ⟨?_, ih⟩
    obtain ⟨x1, ⟨⟨l⟩⟩⟩ := x
    have h1 : x1 = p.1 := h.1.1
    have ht' : l = p.2.text := ht
    rw [← h1, ← ht']

theorem reads_txt : ∀ {ps : List Tm}, (∀ p ∈ ps, p.2.wf ∧ p.2.leaves ≤ 12 ∧ p.2.nodes ≤ 16) → Reads (txtTm ps) ps
  | [], _ => rfl
  | p :: ps, h => by
    have ih := reads_txt (ps := ps) (fun q hq => h q (by simp [hq]))
    have hp := h p (by simp)
    unfold Reads at ih ⊢
    simp only [txtTm, List.map_cons, List.cons.injEq, Prod.mk.injEq, true_and] at ih ⊢
    exact ⟨parse_text hp.1 hp.2.1 hp.2.2, ih⟩

theorem sum_reads {xs : List (Int × ByteArray)} {ps : List Tm} (h : sumOf xs = some ps) : Reads xs ps := by
  unfold sumOf at h
  split at h
  · cases h
  · exact rdAll_reads _ xs ps rfl ((rdAll_desc (lo := 1) (hi := 100) _ xs rfl).2 ps h)

theorem sum_same {xs : List (Int × ByteArray)} {ps : List Tm} (h : sumOf xs = some ps) : Same ps := (sumOf_ok h).2.2.1.same

theorem sum_txt {xs : List (Int × ByteArray)} {ps : List Tm} (h : sumOf xs = some ps) : txtTm ps = xs := (sum_reads h).txt

end Go.Proofs.YtoeebipahifpcaaGreat
