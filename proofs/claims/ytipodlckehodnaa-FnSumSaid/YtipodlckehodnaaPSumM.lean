/- What the promises on sums say, as mathematics. No walk here. -/
import Derived.Test.YtipodlckehodnaaCoefS
import Derived.Test.YtipodlckehodnaaSumX
namespace Go.Proofs.Ytipodlckehodnaa

mutual
theorem mir_mir : ∀ (t : T), t.mirror.mirror = t
  | .leaf => by simp [T.mirror]
  | .node c ks => by
    simp only [T.mirror]
    rw [mirrorL_eq, mirrorL_eq]
    simp only [List.map_reverse, List.reverse_reverse, List.map_map]
    congr 1
    exact mirL_mir ks
theorem mirL_mir : ∀ (ks : List T), ks.map (T.mirror ∘ T.mirror) = ks
  | [] => rfl
  | k :: ks => by simp [mir_mir k, mirL_mir ks]
end

/-- These terms are read from these texts. -/
def Reads (xs : List (Int × ByteArray)) (ps : List Tm) : Prop := xs.map (fun x => (x.1, parse x.2.data.toList)) = ps.map (fun p => (p.1, some p.2))
def Same (ps : List Tm) : Prop := ∀ p ∈ ps, ∀ q ∈ ps, p.2.leaves = q.2.leaves

theorem Reads.length {xs : List (Int × ByteArray)} {ps : List Tm} (h : Reads xs ps) : xs.length = ps.length := by
  have := congrArg List.length h
  simpa using this

theorem rdAll_reads {lo hi : Int} : ∀ (n : Nat) (xs : List (Int × ByteArray)) (ps : List Tm), xs.length = n → rdAll lo hi false xs = some ps → Reads xs ps := by
  intro n
  induction n with
  | zero =>
    intro xs ps hn h
    have : xs = [] := List.length_eq_zero_iff.1 hn
    subst this
    rw [rdAll_nil] at h
    cases h; rfl
  | succ n ih =>
    intro xs ps hn h
    have e : xs = xs.take n ++ [xs[n]] := by rw [← List.take_succ_eq_append_getElem (by omega), List.take_of_length_le (by omega)]
    have hl : (xs.take n).length = n := by rw [List.length_take]; omega
    generalize xs.take n = ys at e hl
    generalize xs[n] = x at e
    subst e
    rw [rdAll_snoc] at h
    cases hr : rdAll lo hi false ys with
    | none => rw [hr] at h; cases h
    | some qs =>
      have i1 := ih ys qs hl hr
      rw [hr] at h
      cases hp : parse x.2.data.toList with
      | none => rw [rdStep_no hp] at h; cases h
      | some t =>
        rw [rdStep_tree hp] at h
        split at h
        · cases h
          unfold Reads at i1 ⊢
          rw [List.map_append, List.map_append, i1]
          simp [hp]
        · cases h

theorem reads_rdAll {lo hi : Int} : ∀ (n : Nat) (xs : List (Int × ByteArray)) (ps : List Tm), xs.length = n → Reads xs ps → Same ps → (∀ p ∈ ps, lo ≤ p.1 ∧ p.1 ≤ hi) → rdAll lo hi false xs = some ps := by
  intro n
  induction n with
  | zero =>
    intro xs ps hn h _ _
    have : xs = [] := List.length_eq_zero_iff.1 hn
    subst this
    have hl := h.length
    have : ps = [] := List.length_eq_zero_iff.1 (by simpa using hl.symm)
    subst this; rfl
  | succ n ih =>
    intro xs ps hn h hs hr
    have hl := h.length
    have e : xs = xs.take n ++ [xs[n]] := by rw [← List.take_succ_eq_append_getElem (by omega), List.take_of_length_le (by omega)]
    have e2 : ps = ps.take n ++ [ps[n]] := by rw [← List.take_succ_eq_append_getElem (by omega), List.take_of_length_le (by omega)]
    have l1 : (xs.take n).length = n := by rw [List.length_take]; omega
    have l2 : (ps.take n).length = n := by rw [List.length_take]; omega
    generalize xs.take n = ys at e l1
    generalize xs[n] = x at e
    generalize ps.take n = qs at e2 l2
    generalize ps[n] = p at e2
    subst e
    subst e2
    unfold Reads at h
    rw [List.map_append, List.map_append] at h
    obtain ⟨h1, h2⟩ := List.append_inj h (by simp [l1, l2])
    simp only [List.map_cons, List.map_nil, List.cons.injEq, and_true, Prod.mk.injEq] at h2
    rw [rdAll_snoc, ih ys qs l1 h1 (fun a ha b hb => hs a (by simp [ha]) b (by simp [hb])) (fun a ha => hr a (by simp [ha])), rdStep_tree h2.2, if_pos]
    · rw [h2.1]
    · have hp := hr p (by simp)
      have hf : fitsHd qs p.2 = true := by
        cases qs with
        | nil => rfl
        | cons q qs => simp only [fitsHd, decide_eq_true_eq]; exact hs p (by simp) q (by simp)
      rw [h2.1]
      simp [fits, hp.1, hp.2, hf]

theorem Reads.txt : ∀ {xs : List (Int × ByteArray)} {ps : List Tm}, Reads xs ps → txtTm ps = xs
  | [], [], _ => rfl
  | [], p :: ps, h => by cases h
  | x :: xs, [], h => by cases h
  | x :: xs, p :: ps, h => by
    unfold Reads at h
    simp only [List.map_cons, List.cons.injEq, Prod.mk.injEq] at h
    have ih := Reads.txt (xs := xs) (ps := ps) h.2
    have ht := (parse_some h.1.2).2.1
    simp only [txtTm, List.map_cons, List.cons.injEq]
    refine ⟨?_, ih⟩
    obtain ⟨x1, ⟨⟨l⟩⟩⟩ := x
    have h1 : x1 = p.1 := h.1.1
    have ht' : l = p.2.text := ht
    rw [← h1, ← ht']

theorem reads_txt : ∀ {ps : List Tm}, (∀ p ∈ ps, p.2.wf ∧ p.2.leaves ≤ 12 ∧ p.2.nodes ≤ 16) → Reads (txtTm ps) ps
  | [], _ => rfl
  | p :: ps, h => by
    have ih := reads_txt (ps := ps) (fun q hq => h q (by simp [hq]))
    have hp := h p (by simp)
    unfold Reads at ih ⊢
    simp only [txtTm, List.map_cons, List.cons.injEq, Prod.mk.injEq, true_and] at ih ⊢
    exact ⟨parse_text hp.1 hp.2.1 hp.2.2, ih⟩

theorem sum_reads {xs : List (Int × ByteArray)} {ps : List Tm} (h : sumOf xs = some ps) : Reads xs ps := by
  unfold sumOf at h
  split at h
  · cases h
  · exact rdAll_reads _ xs ps rfl ((rdAll_desc (lo := 1) (hi := 100) _ xs rfl).2 ps h)

theorem sum_same {xs : List (Int × ByteArray)} {ps : List Tm} (h : sumOf xs = some ps) : Same ps := (sumOf_ok h).2.2.1.same

theorem sum_txt {xs : List (Int × ByteArray)} {ps : List Tm} (h : sumOf xs = some ps) : txtTm ps = xs := (sum_reads h).txt

theorem terms_of_sum {xs : List (Int × ByteArray)} {ps : List Tm} (h : sumOf xs = some ps) : termsOf (-1000000) 1000000 xs = some ps := by
  obtain ⟨h1, h2, h3, _⟩ := sumOf_ok h
  rw [termsOf, if_neg (by omega)]
  exact reads_rdAll _ xs ps rfl (sum_reads h) (sum_same h) (fun p hp => by have := h3.coef p hp; omega)

/-- What is a sum reads back as one. -/
theorem ok_sum {ps : List Tm} (hnf : NF ps) (hl : ps.length ≤ 60) (ht : ∀ p ∈ ps, p.2.leaves ≤ 12 ∧ p.2.nodes ≤ 16) (hs : Same ps) : sumOf (txtTm ps) = some ps := by
  refine sum_of_terms ?_ hnf.1
  rw [termsOf, if_neg (by rw [txtTm_length]; omega)]
  exact reads_rdAll _ _ ps rfl (reads_txt (fun p hp => ⟨(hnf.2 p hp).2.2, ht p hp⟩)) hs (fun p hp => ⟨(hnf.2 p hp).1, (hnf.2 p hp).2.1⟩)

theorem outOf_yes {ps : List Tm} (hl : ps.length ≤ 60) (ht : ∀ p ∈ ps, p.2.leaves ≤ 12 ∧ p.2.nodes ≤ 16) : outOf ps = some ps := by
  rw [outOf, if_pos (bounded_yes hl (fun k hk => by have := ht _ (List.getElem_mem hk); simp [small, this.1, this.2]))]

theorem outOf_some {ps qs : List Tm} (h : outOf ps = some qs) : qs = ps ∧ ps.length ≤ 60 ∧ ∀ p ∈ ps, p.2.leaves ≤ 12 ∧ p.2.nodes ≤ 16 := by
  unfold outOf at h
  split at h
  · rename_i hb
    cases h
    simp only [bounded, Bool.and_eq_true, decide_eq_true_eq, List.all_eq_true, small] at hb
    exact ⟨rfl, hb.1, fun p hp => hb.2 p hp⟩
  · cases h

theorem Same.canon {ps : List Tm} (h : Same ps) : Same (canon ps) := fun p hp q hq => by
  obtain ⟨p', h1, e1⟩ := mem_canon hp
  obtain ⟨q', h2, e2⟩ := mem_canon hq
  rw [e1, e2]; exact h p' h1 q' h2

theorem canon_bnd {ps : List Tm} (h : ∀ p ∈ ps, p.2.leaves ≤ 12 ∧ p.2.nodes ≤ 16) : ∀ p ∈ canon ps, p.2.leaves ≤ 12 ∧ p.2.nodes ≤ 16 := fun p hp => by
  obtain ⟨q, hq, e⟩ := mem_canon hp
  rw [e]; exact h q hq

theorem alike_same {ps qs : List Tm} (h1 : Same ps) (h2 : Same qs) (h : alike ps qs = true) : Same (ps ++ qs) := by
  cases ps with
  | nil => simpa using h2
  | cons p ps =>
    cases qs with
    | nil => simpa using h1
    | cons q qs =>
      have e : p.2.leaves = q.2.leaves := of_decide_eq_true h
      have key : ∀ a ∈ (p :: ps) ++ (q :: qs), a.2.leaves = p.2.leaves := fun a ha => by
        rcases List.mem_append.1 ha with ha | ha
        · exact h1 a ha p (by simp)
        · rw [h2 a ha q (by simp), e]
      intro a ha b hb
      rw [key a ha, key b hb]

theorem same_alike {ps qs : List Tm} (h : Same (ps ++ qs)) : alike ps qs = true := by
  cases ps with
  | nil => rfl
  | cons p ps =>
    cases qs with
    | nil => rfl
    | cons q qs => exact decide_eq_true (h p (by simp) q (by simp))

theorem Same.swap {ps qs : List Tm} (h : Same (ps ++ qs)) : Same (qs ++ ps) := fun a ha b hb => h a (by simp at ha ⊢; exact ha.symm) b (by simp at hb ⊢; exact hb.symm)

/-- It is enough to look at trees. -/
theorem canon_wf {ps qs : List Tm} (hp : ∀ p ∈ ps, p.2.wf) (hq : ∀ p ∈ qs, p.2.wf) (h : ∀ t : T, t.wf → (cf ps t - cf qs t) % 101 = 0) : canon ps = canon qs := by
  refine canon_congr hp hq (fun t => ?_)
  by_cases he : ∃ p ∈ ps ++ qs, ordT p.2 t = 0
  · obtain ⟨p, hm, h0⟩ := he
    have hw : p.2.wf := by
      rcases List.mem_append.1 hm with h1 | h1
      · exact hp p h1
      · exact hq p h1
    rw [← cf_congr ps h0, ← cf_congr qs h0]
    exact h _ hw
  · rw [cf_none (fun p hm h0 => he ⟨p, by simp [hm], h0⟩), cf_none (fun p hm h0 => he ⟨p, by simp [hm], h0⟩)]; rfl

theorem cf_scl (m : Int) : ∀ (ps : List Tm) (t : T), cf (sclTm m ps) t = m * cf ps t
  | [], t => by simp [sclTm, cf]
  | p :: ps, t => by
    have ih := cf_scl m ps t
    simp only [sclTm, List.map_cons] at ih ⊢
    rw [cf, cf, ih, Int.mul_add]
    congr 1
    split
    · rfl
    · simp

theorem cf_mir : ∀ (ps : List Tm) (t : T), (∀ p ∈ ps, p.2.wf) → t.wf → cf (mirTm ps) t = cf ps t.mirror
  | [], t, _, _ => by simp [mirTm, cf]
  | p :: ps, t, hp, ht => by
    have ih := cf_mir ps t (fun q hq => hp q (by simp [hq])) ht
    have hw := hp p (by simp)
    simp only [mirTm, List.map_cons] at ih ⊢
    rw [cf, cf, ih]
    congr 1
    have e : (ordT p.2.mirror t = 0) ↔ (ordT p.2 t.mirror = 0) := by
      constructor
      · intro h
        have := ordT_zero (mirror_wf _ hw) ht h
        rw [← this, mir_mir]; exact isCmp_ordT.self _
      · intro h
        have := ordT_zero hw (mirror_wf _ ht) h
        rw [this, mir_mir]; exact isCmp_ordT.self _
    simp only [e]

/-! ### The promises -/

theorem fnSum_told {xs : List (Int × ByteArray)} {ps : List Tm} (h : sumOf xs = some ps) : ofList xs = some ps ∧ addOf xs [] = some ps ∧ txtTm ps = xs := by
  obtain ⟨h1, h2, h3⟩ := sum_trees h
  have hb : ∀ p ∈ ps, p.2.leaves ≤ 12 ∧ p.2.nodes ≤ 16 := fun p hp => ⟨(h2 p hp).2.1, (h2 p hp).2.2.1⟩
  refine ⟨by rw [ofList, terms_of_sum h]; simp only [canon_self h3]; exact outOf_yes h1 hb, ?_, sum_txt h⟩
  have e : sumOf ([] : List (Int × ByteArray)) = some [] := rfl
  rw [addOf, h, e]
  have ha : alike ps [] = true := by cases ps <;> rfl
  simp only [ha, if_true, List.append_nil, canon_self h3]
  exact outOf_yes h1 hb

theorem fnSumOf_told {xs : List (Int × ByteArray)} {qs : List Tm} (h : ofList xs = some qs) : ofList xs.reverse = some qs ∧ (sumOf (txtTm qs)).isSome = true := by
  unfold ofList at h
  split at h
  · cases h
  · rename_i ps hp
    obtain ⟨rfl, hl, ht⟩ := outOf_some h
    obtain ⟨h1, h2, h3⟩ := termsOf_ok hp
    have hw : ∀ p ∈ ps, p.2.wf := fun p hq => (h3.tree p hq).1
    constructor
    · have hrd : Reads xs ps := by
        unfold termsOf at hp
        split at hp
        · cases hp
        · exact rdAll_reads _ xs ps rfl hp
      have hr : termsOf (-1000000) 1000000 xs.reverse = some ps.reverse := by
        rw [termsOf, if_neg (by rw [List.length_reverse]; omega)]
        refine reads_rdAll _ _ _ rfl ?_ (fun p hp q hq => h3.same p (by simpa using hp) q (by simpa using hq)) (fun p hq => h3.coef p (by simpa using hq))
        unfold Reads at hrd ⊢
        rw [List.map_reverse, List.map_reverse, hrd]
      rw [ofList, hr]
      show outOf (canon ps.reverse) = some (canon ps)
      rw [canon_perm (fun p hq => hw p (by simpa using hq)) (List.reverse_perm ps)]
      exact h
    · rw [ok_sum (NF.canon hw) hl ht (Same.canon h3.same)]; rfl

theorem scl_told {xs : List (Int × ByteArray)} {ps : List Tm} (h : sumOf xs = some ps) (m : Int) (h1 : -1000000 ≤ m) (h2 : m ≤ 1000000) : sclOf xs m = some (canon (sclTm m ps)) ∧ sumOf (txtTm (canon (sclTm m ps))) = some (canon (sclTm m ps)) := by
  obtain ⟨hl, ht, hnf⟩ := sum_trees h
  have hm : ∀ p ∈ sclTm m ps, p.2.wf ∧ p.2.leaves ≤ 12 ∧ p.2.nodes ≤ 16 := fun p hp => by
    obtain ⟨q, hq, rfl⟩ := List.mem_map.1 hp
    exact ⟨(ht q hq).1, (ht q hq).2.1, (ht q hq).2.2.1⟩
  have hb := canon_bnd (fun p hp => (hm p hp).2)
  have hln : (canon (sclTm m ps)).length ≤ 60 := by have := canon_length (sclTm m ps); rw [sclTm_length] at this; omega
  have hs : Same (sclTm m ps) := fun p hp q hq => by
    obtain ⟨p', h1, rfl⟩ := List.mem_map.1 hp
    obtain ⟨q', h2, rfl⟩ := List.mem_map.1 hq
    exact sum_same h p' h1 q' h2
  refine ⟨?_, ok_sum (NF.canon (fun p hp => (hm p hp).1)) hln hb hs.canon⟩
  rw [sclOf, h]
  simp only [if_pos (And.intro h1 h2)]
  exact outOf_yes hln hb

theorem fnAdd_told {xs ys : List (Int × ByteArray)} {qs : List Tm} (h : addOf xs ys = some qs) : addOf ys xs = some qs ∧ ∃ ms ps, sclOf ys (-1) = some ms ∧ sumOf xs = some ps ∧ addOf (txtTm qs) (txtTm ms) = some ps ∧ txtTm ps = xs := by
  unfold addOf at h
  split at h
  · rename_i ps zs hx hy
    split at h
    · rename_i ha
      obtain ⟨rfl, hl, ht⟩ := outOf_some h
      obtain ⟨hl1, ht1, hn1⟩ := sum_trees hx
      obtain ⟨hl2, ht2, hn2⟩ := sum_trees hy
      have hw1 : ∀ p ∈ ps, p.2.wf := fun p hp => (ht1 p hp).1
      have hw2 : ∀ p ∈ zs, p.2.wf := fun p hp => (ht2 p hp).1
      have hw : ∀ p ∈ ps ++ zs, p.2.wf := fun p hp => by
        rcases List.mem_append.1 hp with h1 | h1
        · exact hw1 p h1
        · exact hw2 p h1
      have hs := alike_same (sum_same hx) (sum_same hy) ha
      obtain ⟨e1, e2⟩ := scl_told hy (-1) (by omega) (by omega)
      have hq := ok_sum (NF.canon hw) hl ht hs.canon
      constructor
      · rw [addOf, hy, hx]
        simp only [same_alike hs.swap, if_true]
        rw [canon_perm (fun p hp => hw p (by simp at hp ⊢; exact hp.symm)) List.perm_append_comm]
        exact h
      · refine ⟨_, ps, e1, hx, ?_, sum_txt hx⟩
        rw [addOf, hq, e2]
        have hwm : ∀ p ∈ canon (sclTm (-1) zs), p.2.wf := fun p hp => by
          obtain ⟨q, h1, e⟩ := mem_canon hp
          obtain ⟨r, h2, rfl⟩ := List.mem_map.1 h1
          rw [e]; exact hw2 r h2
        have hal : alike (canon (ps ++ zs)) (canon (sclTm (-1) zs)) = true := same_alike (fun a ha b hb => by
          have key : ∀ a ∈ canon (ps ++ zs) ++ canon (sclTm (-1) zs), ∃ q ∈ ps ++ zs, a.2 = q.2 := fun a ha => by
            rcases List.mem_append.1 ha with h1 | h1
            · exact mem_canon h1
            · obtain ⟨q, h2, e⟩ := mem_canon h1
              obtain ⟨r, h3, rfl⟩ := List.mem_map.1 h2
              exact ⟨r, by simp [h3], e⟩
          obtain ⟨q, h1, e⟩ := key a ha
          obtain ⟨r, h2, e'⟩ := key b hb
          rw [e, e']; exact hs q h1 r h2)
        simp only [hal, if_true]
        have hc : canon (canon (ps ++ zs) ++ canon (sclTm (-1) zs)) = canon ps := canon_congr (fun p hp => by
          rcases List.mem_append.1 hp with h1 | h1
          · obtain ⟨q, h2, e⟩ := mem_canon h1
            rw [e]; exact hw q h2
          · exact hwm p h1) hw1 (fun t => by
          have c1 := cf_canon (ps ++ zs) t
          have c2 := cf_canon (sclTm (-1) zs) t
          rw [cf_append] at c1 ⊢
          rw [cf_scl] at c2
          omega)
        rw [hc, canon_self hn1]
        exact outOf_yes hl1 (fun p hp => ⟨(ht1 p hp).2.1, (ht1 p hp).2.2.1⟩)
    · cases h
  · cases h

theorem fnScale_told {xs : List (Int × ByteArray)} {m : Int} {qs : List Tm} (h : sclOf xs m = some qs) : ∃ rs, addOf (txtTm qs) xs = some rs ∧ ∀ us, sclOf xs (m + 1) = some us → us = rs := by
  have h0 := h
  unfold sclOf at h
  split at h
  · cases h
  · rename_i ps hx
    split at h
    · rename_i hm
      obtain ⟨hl1, ht1, hn1⟩ := sum_trees hx
      have hw1 : ∀ p ∈ ps, p.2.wf := fun p hp => (ht1 p hp).1
      obtain ⟨e1, e2⟩ := scl_told hx m hm.1 hm.2
      have eq : qs = canon (sclTm m ps) := by rw [e1] at h0; exact (Option.some.inj h0).symm
      subst eq
      have hws : ∀ (n : Int), ∀ p ∈ sclTm n ps, p.2.wf ∧ p.2.leaves ≤ 12 ∧ p.2.nodes ≤ 16 := fun n p hp => by
        obtain ⟨q, hq, rfl⟩ := List.mem_map.1 hp
        exact ⟨(ht1 q hq).1, (ht1 q hq).2.1, (ht1 q hq).2.2.1⟩
      have hc : canon (canon (sclTm m ps) ++ ps) = canon (sclTm (m + 1) ps) := canon_congr (fun p hp => by
        rcases List.mem_append.1 hp with h1 | h1
        · obtain ⟨q, h2, e⟩ := mem_canon h1
          rw [e]; exact (hws m q h2).1
        · exact hw1 p h1) (fun p hp => (hws (m + 1) p hp).1) (fun t => by
        have c1 := cf_canon (sclTm m ps) t
        rw [cf_append, cf_scl]
        rw [cf_scl] at c1
        have : (m + 1) * cf ps t = m * cf ps t + cf ps t := by rw [Int.add_mul, Int.one_mul]
        omega)
      refine ⟨canon (sclTm (m + 1) ps), ?_, fun us hu => ?_⟩
      · rw [addOf, e2, hx]
        have hal : alike (canon (sclTm m ps)) ps = true := same_alike (fun a ha b hb => by
          have key : ∀ a ∈ canon (sclTm m ps) ++ ps, ∃ q ∈ ps, a.2 = q.2 := fun a ha => by
            rcases List.mem_append.1 ha with h1 | h1
            · obtain ⟨q, h2, e⟩ := mem_canon h1
              obtain ⟨r, h3, rfl⟩ := List.mem_map.1 h2
              exact ⟨r, h3, e⟩
            · exact ⟨a, h1, rfl⟩
          obtain ⟨q, h1, e⟩ := key a ha
          obtain ⟨r, h2, e'⟩ := key b hb
          rw [e, e']; exact sum_same hx q h1 r h2)
        simp only [hal, if_true]
        rw [hc]
        exact outOf_yes (by have := canon_length (sclTm (m + 1) ps); rw [sclTm_length] at this; omega) (canon_bnd (fun p hp => (hws (m + 1) p hp).2))
      · unfold sclOf at hu
        rw [hx] at hu
        simp only at hu
        split at hu
        · exact (outOf_some hu).1
        · cases hu
    · cases h

theorem fnMirror_told {xs : List (Int × ByteArray)} {qs : List Tm} (h : mirOf xs = some qs) : ∃ ps, sumOf xs = some ps ∧ mirOf (txtTm qs) = some ps ∧ txtTm ps = xs ∧ qs.length = xs.length := by
  unfold mirOf at h
  split at h
  · cases h
  · rename_i ps hx
    obtain ⟨rfl, hl, ht⟩ := outOf_some h
    obtain ⟨hl1, ht1, hn1⟩ := sum_trees hx
    have hw1 : ∀ p ∈ ps, p.2.wf := fun p hp => (ht1 p hp).1
    have hm := mirTm_ok (L := 12) (N := 16) (fun p hp => ⟨(ht1 p hp).1, (ht1 p hp).2.1, (ht1 p hp).2.2.1⟩)
    have hs : Same (mirTm ps) := fun p hp q hq => by
      obtain ⟨p', h1, rfl⟩ := List.mem_map.1 hp
      obtain ⟨q', h2, rfl⟩ := List.mem_map.1 hq
      have e1 := (mirror_size p'.2).1
      have e2 := (mirror_size q'.2).1
      have := sum_same hx p' h1 q' h2
      show p'.2.mirror.leaves = q'.2.mirror.leaves
      omega
    have hq := ok_sum (NF.canon (fun p hp => (hm p hp).1)) hl ht hs.canon
    have hcw : ∀ p ∈ canon (mirTm ps), p.2.wf := fun p hp => by
      obtain ⟨q, h1, e⟩ := mem_canon hp
      rw [e]; exact (hm q h1).1
    have hc : canon (mirTm (canon (mirTm ps))) = canon ps := canon_wf (fun p hp => by
      obtain ⟨q, h1, rfl⟩ := List.mem_map.1 hp
      exact mirror_wf _ (hcw q h1)) hw1 (fun t ht => by
      rw [cf_mir _ _ hcw ht]
      have c1 := cf_canon (mirTm ps) t.mirror
      rw [cf_mir _ _ hw1 (mirror_wf _ ht), mir_mir] at c1
      exact c1)
    rw [canon_self hn1] at hc
    refine ⟨ps, hx, ?_, sum_txt hx, ?_⟩
    · rw [mirOf, hq]
      simp only [hc]
      exact outOf_yes hl1 (fun p hp => ⟨(ht1 p hp).2.1, (ht1 p hp).2.2.1⟩)
    · have l1 := canon_length (mirTm ps)
      have l2 := canon_length (mirTm (canon (mirTm ps)))
      rw [hc, mirTm_length] at l2
      rw [mirTm_length] at l1
      have := (sumOf_ok hx).1
      omega

theorem nf_cf_range : ∀ {ps : List Tm} (t : T), NF ps → 0 ≤ cf ps t ∧ cf ps t < 101
  | [], t, _ => by simp [cf]
  | p :: ps, t, h => by
    by_cases h0 : ordT p.2 t = 0
    · rw [← cf_congr _ h0, h.cf_head]
      have := h.2 p (by simp)
      omega
    · rw [cf, if_neg h0]
      have := nf_cf_range t h.tail
      omega

theorem fnCoef_told {xs : List (Int × ByteArray)} {s : ByteArray} (h : 0 ≤ coefV xs s) : ∃ ms, sclOf xs (-1) = some ms ∧ coefV xs s < 101 ∧ (coefV xs s + coefV (txtTm ms) s) % 101 = 0 ∧ 0 ≤ coefV (txtTm ms) s ∧ coefV (txtTm ms) s < 101 := by
  cases hx : sumOf xs with
  | none => rw [coefV_no1 hx] at h; omega
  | some ps =>
    cases hp : parse s.data.toList with
    | none => rw [coefV_no2 hp] at h; omega
    | some t =>
      obtain ⟨e1, e2⟩ := scl_told hx (-1) (by omega) (by omega)
      obtain ⟨_, ht, hn⟩ := sum_trees hx
      refine ⟨_, e1, ?_⟩
      rw [coefV_yes hx hp, coefV_yes e2 hp]
      have hw : ∀ p ∈ sclTm (-1) ps, p.2.wf := fun p hp => by
        obtain ⟨q, hq, rfl⟩ := List.mem_map.1 hp
        exact (ht q hq).1
      have r1 := nf_cf_range t hn
      have r2 := nf_cf_range t (NF.canon hw)
      have c := cf_canon (sclTm (-1) ps) t
      rw [cf_scl] at c
      exact ⟨r1.2, by omega, r2.1, r2.2⟩

theorem fnLead_told {xs : List (Int × ByteArray)} {ps : List Tm} (h : sumOf xs = some ps) (h0 : 0 < xs.length) : coefV xs (xs[0]).2 = (xs[0]).1 ∧ ∃ t, parse (xs[0]).2.data.toList = some t ∧ ∀ j (hj : j < xs.length), ∃ u, parse (xs[j]).2.data.toList = some u ∧ ordT u t ≤ 0 := by
  have hr := sum_reads h
  have hl := hr.length
  obtain ⟨_, ht, hn⟩ := sum_trees h
  have hk : ∀ j (hj : j < xs.length), (xs[j]).1 = (ps[j]'(by omega)).1 ∧ parse (xs[j]).2.data.toList = some (ps[j]'(by omega)).2 := fun j hj => by
    have := congrArg (fun l => l[j]?) hr
    simp only [List.getElem?_map, List.getElem?_eq_getElem hj, List.getElem?_eq_getElem (show j < ps.length by omega), Option.map_some, Option.some.injEq, Prod.mk.injEq] at this
    exact this
  obtain ⟨a0, p0⟩ := hk 0 h0
  refine ⟨?_, _, p0, fun j hj => ⟨_, (hk j hj).2, ?_⟩⟩
  · rw [coefV_yes h p0, a0]
    cases ps with
    | nil => simp only [List.length_nil] at hl; omega
    | cons p ps => exact hn.cf_head
  · by_cases hj0 : j = 0
    · subst hj0
      rw [isCmp_ordT.self]; omega
    · have := List.pairwise_iff_getElem.1 hn.1 0 j (by omega) (by omega) (by omega)
      have := isCmp_ordT.anti (ps[0]'(by omega)).2 (ps[j]'(by omega)).2
      omega

end Go.Proofs.Ytipodlckehodnaa
