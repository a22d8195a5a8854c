/- Merged out of: XDrS, XPSumM, XPSum1, XPSum2. -/
import Derived.Test.YtapobhnhnldlkaaGreatKDrawS
import Derived.Test.YtapobhnhnldlkaaGreatKSumOfS
import Derived.Deep.RegionHeld3
import Derived.Test.YtapobhnhnldlkaaGreatKCoef
import Derived.Test.YtapobhnhnldlkaaGreatKBndX
import Derived.Test.YtapobhnhnldlkaaGreatReads
import Derived.Test.YtapobhnhnldlkaaGreatKAddI
import Derived.Test.YtapobhnhnldlkaaGreatSumOpsI
import Derived.Test.YtapobhnhnldlkaaGreatSumOpsS
section
/- Trees of a shape are drawn, and sums of them. -/
namespace Go.Proofs.YtapobhnhnldlkaaGreat
open Go.RowKit

/-- A row of terms, cell by cell. -/
def flatT (ys : List (Int × ByteArray)) : List Value := ys.flatMap fun y => [.int .i64 y.1, .string y.2]

theorem flatT_snoc (ys : List (Int × ByteArray)) (y : Int × ByteArray) : flatT (ys ++ [y]) = flatT ys ++ [.int .i64 y.1, .string y.2] := by simp [flatT]
theorem flatT_length : ∀ (ys : List (Int × ByteArray)), (flatT ys).length = ys.length * 2
  | [] => rfl
  | y :: ys => by
    have ih := flatT_length ys
    simp only [flatT, List.flatMap_cons, List.length_append, List.length_cons, List.length_nil] at ih ⊢
    omega
theorem flatT_get : ∀ (ys : List (Int × ByteArray)) (j : Nat) (h : j < ys.length), (flatT ys)[j * 2]? = some (.int .i64 (ys[j]).1) ∧ (flatT ys)[j * 2 + 1]? = some (.string (ys[j]).2)
  | [], j, h => by simp at h
  | y :: ys, 0, _ => ⟨rfl, rfl⟩
  | y :: ys, j + 1, h => by
    have ih := flatT_get ys j (by simpa using h)
    simp only [flatT, List.flatMap_cons, List.getElem_cons_succ] at ih ⊢
    rw [show (j + 1) * 2 = j * 2 + 1 + 1 by omega]
    exact ih

theorem owns_termL {w : World} {base g n c : Nat} {ys : List (Int × ByteArray)} (hn : n = ys.length) (h : w.ownsRow base 74 2 (.slice (some ⟨g, 0, none⟩) n c) n (flatT ys)) : TermL w g ys := fun j hj => by
  obtain ⟨h1, h2⟩ := flatT_get ys j hj
  exact ⟨by rw [h.cellAt (j * 2) (by omega), h1], by rw [h.cellAt (j * 2 + 1) (by omega), h2]⟩

/-- The terms are small. -/
def TmSmall (ys : List (Int × ByteArray)) : Prop := ∀ j (h : j < ys.length), (ys[j]).2.size ≤ 2000 ∧ -100 ≤ (ys[j]).1 ∧ (ys[j]).1 ≤ 100

theorem TmSmall.snoc {ys : List (Int × ByteArray)} {y : Int × ByteArray} (h : TmSmall ys) (h1 : y.2.size ≤ 2000) (h2 : -100 ≤ y.1) (h3 : y.1 ≤ 100) : TmSmall (ys ++ [y]) := fun j hj => by
  by_cases e : j < ys.length
  · rw [List.getElem_append_left e]; exact h j e
  · have : j = ys.length := by simp at hj; omega
    subst this
    simp [h1, h2, h3]

theorem ofList_ok {xs : List (Int × ByteArray)} {qs : List Tm} (h : ofList xs = some qs) : qs.length ≤ 60 ∧ ∀ p ∈ qs, p.2.leaves ≤ 12 ∧ p.2.nodes ≤ 16 ∧ 1 ≤ p.1 ∧ p.1 ≤ 100 := by
  unfold ofList at h
  split at h
  · cases h
  · rename_i ps hp
    obtain ⟨_, _, h3⟩ := termsOf_ok hp
    have hnf := NF.canon (ps := ps) (fun p hq => (h3.tree p hq).1)
    unfold outOf at h
    split at h
    · rename_i hb
      cases h
      simp only [bounded, Bool.and_eq_true, decide_eq_true_eq, List.all_eq_true, small] at hb
      exact ⟨hb.1, fun p hp => ⟨(hb.2 p hp).1, (hb.2 p hp).2, (hnf.2 p hp).1, (hnf.2 p hp).2.1⟩⟩
    · cases h

theorem txt_small {qs : List Tm} (h : ∀ p ∈ qs, p.2.leaves ≤ 12 ∧ p.2.nodes ≤ 16 ∧ 1 ≤ p.1 ∧ p.1 ≤ 100) : TmSmall (txtTm qs) := fun j hj => by
  have hj2 : j < qs.length := by rw [txtTm_length] at hj; exact hj
  have hq := h _ (List.getElem_mem hj2)
  have e : (txtTm qs)[j] = ((qs[j]).1, ⟨(qs[j]).2.text.toArray⟩) := by simp [txtTm]
  rw [e]
  refine ⟨?_, by omega, by omega⟩
  have := text_length (qs[j]).2
  change (qs[j]).2.text.toArray.size ≤ 2000
  simp only [List.size_toArray]
  omega

/-- A drawn list of terms. -/
def SumDr (R : Nat) (a : Option Addr) (cap : Nat) (bs : List Nat) (p : Nat) (w : World) (e : Ending) (w' : World) : Prop :=
  w.grownBy w' (some R) ∧ ∃ (ys : List (Int × ByteArray)) (g n c q : Nat), e = .returned (.slice (some ⟨g, 0, none⟩) n c) ∧ n = ys.length ∧ n ≤ 60 ∧ TmSmall ys ∧ TermL w' g ys ∧ w.heap.size ≤ g ∧ RdR w' R a cap bs q ∧ q ≤ p + 200

end Go.Proofs.YtapobhnhnldlkaaGreat
end
section
/- What the promises on sums say, as mathematics. No walk here. -/
namespace Go.Proofs.YtapobhnhnldlkaaGreat

mutual
theorem mir_mir : ∀ (t : T), t.mirror.mirror = t
  | .leaf => by simp [T.mirror]
  | .node c ks => by
    simp only [T.mirror]
    rw [mirrorL_eq, mirrorL_eq]
    simp only [List.map_reverse, List.reverse_reverse, List.map_map]
    congr 1
    exact mirL_mir ks
theorem mirL_mir : ∀ (ks : List T), ks.map (T.mirror ∘ T.mirror) = ks
  | [] => rfl
  | k :: ks => by simp [mir_mir k, mirL_mir ks]
end

theorem terms_of_sum {xs : List (Int × ByteArray)} {ps : List Tm} (h : sumOf xs = some ps) : termsOf (-1000000) 1000000 xs = some ps := by
  obtain ⟨h1, h2, h3, _⟩ := sumOf_ok h
  rw [termsOf, if_neg (by omega)]
  exact reads_rdAll _ xs ps rfl (sum_reads h) (sum_same h) (fun p hp => by have := h3.coef p hp; omega)

/-- What is a sum reads back as one. -/
theorem ok_sum {ps : List Tm} (hnf : NF ps) (hl : ps.length ≤ 60) (ht : ∀ p ∈ ps, p.2.leaves ≤ 12 ∧ p.2.nodes ≤ 16) (hs : Same ps) : sumOf (txtTm ps) = some ps := by
  refine sum_of_terms ?_ hnf.1
  rw [termsOf, if_neg (by rw [txtTm_length]; omega)]
  exact reads_rdAll _ _ ps rfl (reads_txt (fun p hp => ⟨(hnf.2 p hp).2.2, ht p hp⟩)) hs (fun p hp => ⟨(hnf.2 p hp).1, (hnf.2 p hp).2.1⟩)

theorem outOf_yes {ps : List Tm} (hl : ps.length ≤ 60) (ht : ∀ p ∈ ps, p.2.leaves ≤ 12 ∧ p.2.nodes ≤ 16) : outOf ps = some ps := by
  rw [outOf, if_pos (bounded_yes hl (fun k hk => by have := ht _ (List.getElem_mem hk); simp [small, this.1, this.2]))]

theorem outOf_some {ps qs : List Tm} (h : outOf ps = some qs) : qs = ps ∧ ps.length ≤ 60 ∧ ∀ p ∈ ps, p.2.leaves ≤ 12 ∧ p.2.nodes ≤ 16 := by
  unfold outOf at h
  split at h
  · rename_i hb
    cases h
    simp only [bounded, Bool.and_eq_true, decide_eq_true_eq, List.all_eq_true, small] at hb
    exact ⟨rfl, hb.1, fun p hp => hb.2 p hp⟩
  · cases h

theorem Same.canon {ps : List Tm} (h : Same ps) : Same (canon ps) := fun p hp q hq => by
  obtain ⟨p', h1, e1⟩ := mem_canon hp
  obtain ⟨q', h2, e2⟩ := mem_canon hq
  rw [e1, e2]; exact h p' h1 q' h2

theorem canon_bnd {ps : List Tm} (h : ∀ p ∈ ps, p.2.leaves ≤ 12 ∧ p.2.nodes ≤ 16) : ∀ p ∈ canon ps, p.2.leaves ≤ 12 ∧ p.2.nodes ≤ 16 := fun p hp => by
  obtain ⟨q, hq, e⟩ := mem_canon hp
  rw [e]; exact h q hq

theorem alike_same {ps qs : List Tm} (h1 : Same ps) (h2 : Same qs) (h : alike ps qs = true) : Same (ps ++ qs) := by
  cases ps with
  | nil => simpa using h2
  | cons p ps =>
    cases qs with
    | nil => simpa using h1
    | cons q qs =>
      have e : p.2.leaves = q.2.leaves := of_decide_eq_true h
      have key : ∀ a ∈ (p :: ps) ++ (q :: qs), a.2.leaves = p.2.leaves := fun a ha => by
        rcases List.mem_append.1 ha with ha | ha
        · exact h1 a ha p (by simp)
        · rw [h2 a ha q (by simp), e]
      intro a ha b hb
      rw [key a ha, key b hb]

theorem same_alike {ps qs : List Tm} (h : Same (ps ++ qs)) : alike ps qs = true := by
  cases ps with
  | nil => rfl
  | cons p ps =>
    cases qs with
    | nil => rfl
    | cons q qs => exact decide_eq_true (h p (by simp) q (by simp))

theorem Same.swap {ps qs : List Tm} (h : Same (ps ++ qs)) : Same (qs ++ ps) := fun a ha b hb => h a (by simp at ha ⊢; exact ha.symm) b (by simp at hb ⊢; exact hb.symm)

/-- It is enough to look at trees. -/
theorem canon_wf {ps qs : List Tm} (hp : ∀ p ∈ ps, p.2.wf) (hq : ∀ p ∈ qs, p.2.wf) (h : ∀ t : T, t.wf → (cf ps t - cf qs t) % 101 = 0) : canon ps = canon qs := by
  refine canon_congr hp hq (fun t => ?_)
  by_cases he : ∃ p ∈ ps ++ qs, ordT p.2 t = 0
  · obtain ⟨p, hm, h0⟩ := he
    have hw : p.2.wf := by
      rcases List.mem_append.1 hm with h1 | h1
      · exact hp p h1
      · exact hq p h1
    rw [← cf_congr ps h0, ← cf_congr qs h0]
    exact h _ hw
  · rw [cf_none (fun p hm h0 => he ⟨p, by simp [hm], h0⟩), cf_none (fun p hm h0 => he ⟨p, by simp [hm], h0⟩)]; rfl

theorem cf_scl (m : Int) : ∀ (ps : List Tm) (t : T), cf (sclTm m ps) t = m * cf ps t
  | [], t => by simp [sclTm, cf]
  | p :: ps, t => by
    have ih := cf_scl m ps t
    simp only [sclTm, List.map_cons] at ih ⊢
    rw [cf, cf, ih, Int.mul_add]
    congr 1
    split
    · rfl
    · simp

theorem cf_mir : ∀ (ps : List Tm) (t : T), (∀ p ∈ ps, p.2.wf) → t.wf → cf (mirTm ps) t = cf ps t.mirror
  | [], t, _, _ => by simp [mirTm, cf]
  | p :: ps, t, hp, ht => by
    have ih := cf_mir ps t (fun q hq => hp q (by simp [hq])) ht
    have hw := hp p (by simp)
    simp only [mirTm, List.map_cons] at ih ⊢
    rw [cf, cf, ih]
    congr 1
    have e : (ordT p.2.mirror t = 0) ↔ (ordT p.2 t.mirror = 0) := by
      constructor
      · intro h
        have := ordT_zero (mirror_wf _ hw) ht h
        rw [← this, mir_mir]; exact isCmp_ordT.self _
      · intro h
        have := ordT_zero hw (mirror_wf _ ht) h
        rw [this, mir_mir]; exact isCmp_ordT.self _
    simp only [e]

/-! ### The promises -/

theorem fnSum_told {xs : List (Int × ByteArray)} {ps : List Tm} (h : sumOf xs = some ps) : ofList xs = some ps ∧ addOf xs [] = some ps ∧ txtTm ps = xs := by
  obtain ⟨h1, h2, h3⟩ := sum_trees h
  have hb : ∀ p ∈ ps, p.2.leaves ≤ 12 ∧ p.2.nodes ≤ 16 := fun p hp => ⟨(h2 p hp).2.1, (h2 p hp).2.2.1⟩
  refine ⟨by rw [ofList, terms_of_sum h]; simp only [canon_self h3]; exact outOf_yes h1 hb, ?_, sum_txt h⟩
  have e : sumOf ([] : List (Int × ByteArray)) = some [] := rfl
  rw [addOf, h, e]
  have ha : alike ps [] = true := by cases ps <;> rfl
  simp only [ha, if_true, List.append_nil, canon_self h3]
  exact outOf_yes h1 hb

theorem fnSumOf_told {xs : List (Int × ByteArray)} {qs : List Tm} (h : ofList xs = some qs) : ofList xs.reverse = some qs ∧ (sumOf (txtTm qs)).isSome = true := by
  unfold ofList at h
  split at h
  · cases h
  · rename_i ps hp
    obtain ⟨rfl, hl, ht⟩ := outOf_some h
    obtain ⟨h1, h2, h3⟩ := termsOf_ok hp
    have hw : ∀ p ∈ ps, p.2.wf := fun p hq => (h3.tree p hq).1
    constructor
    · have hrd : Reads xs ps := by
        unfold termsOf at hp
        split at hp
        · cases hp
        · exact rdAll_reads _ xs ps rfl hp
      have hr : termsOf (-1000000) 1000000 xs.reverse = some ps.reverse := by
        rw [termsOf, if_neg (by rw [List.length_reverse]; omega)]
        refine reads_rdAll _ _ _ rfl ?_ (fun p hp q hq => h3.same p (by simpa using hp) q (by simpa using hq)) (fun p hq => h3.coef p (by simpa using hq))
        unfold Reads at hrd ⊢
        rw [List.map_reverse, List.map_reverse, hrd]
      rw [ofList, hr]
      show outOf (canon ps.reverse) = some (canon ps)
      rw [canon_perm (fun p hq => hw p (by simpa using hq)) (List.reverse_perm ps)]
      exact h
    · rw [ok_sum (NF.canon hw) hl ht (Same.canon h3.same)]; rfl

theorem scl_told {xs : List (Int × ByteArray)} {ps : List Tm} (h : sumOf xs = some ps) (m : Int) (h1 : -1000000 ≤ m) (h2 : m ≤ 1000000) : sclOf xs m = some (canon (sclTm m ps)) ∧ sumOf (txtTm (canon (sclTm m ps))) = some (canon (sclTm m ps)) := by
  obtain ⟨hl, ht, hnf⟩ := sum_trees h
  have hm : ∀ p ∈ sclTm m ps, p.2.wf ∧ p.2.leaves ≤ 12 ∧ p.2.nodes ≤ 16 := fun p hp => by
    obtain ⟨q, hq, rfl⟩ := List.mem_map.1 hp
    exact ⟨(ht q hq).1, (ht q hq).2.1, (ht q hq).2.2.1⟩
  have hb := canon_bnd (fun p hp => (hm p hp).2)
  have hln : (canon (sclTm m ps)).length ≤ 60 := by have := canon_length (sclTm m ps); rw [sclTm_length] at this; omega
  have hs : Same (sclTm m ps) := fun p hp q hq => by
    obtain ⟨p', h1, rfl⟩ := List.mem_map.1 hp
    obtain ⟨q', h2, rfl⟩ := List.mem_map.1 hq
    exact sum_same h p' h1 q' h2
  refine ⟨?_, ok_sum (NF.canon (fun p hp => (hm p hp).1)) hln hb hs.canon⟩
  rw [sclOf, h]
  simp only [if_pos (And.intro h1 h2)]
  exact outOf_yes hln hb

theorem fnAdd_told {xs ys : List (Int × ByteArray)} {qs : List Tm} (h : addOf xs ys = some qs) : addOf ys xs = some qs ∧ ∃ ms ps, sclOf ys (-1) = some ms ∧ sumOf xs = some ps ∧ addOf (txtTm qs) (txtTm ms) = some ps ∧ txtTm ps = xs := by
  unfold addOf at h
  split at h
  · rename_i ps zs hx hy
    split at h
    · rename_i ha
      obtain ⟨rfl, hl, ht⟩ := outOf_some h
      obtain ⟨hl1, ht1, hn1⟩ := sum_trees hx
      obtain ⟨hl2, ht2, hn2⟩ := sum_trees hy
      have hw1 : ∀ p ∈ ps, p.2.wf := fun p hp => (ht1 p hp).1
      have hw2 : ∀ p ∈ zs, p.2.wf := fun p hp => (ht2 p hp).1
      have hw : ∀ p ∈ ps ++ zs, p.2.wf := fun p hp => by
        rcases List.mem_append.1 hp with h1 | h1
        · exact hw1 p h1
        · exact hw2 p h1
      have hs := alike_same (sum_same hx) (sum_same hy) ha
      obtain ⟨e1, e2⟩ := scl_told hy (-1) (by omega) (by omega)
      have hq := ok_sum (NF.canon hw) hl ht hs.canon
      constructor
      · rw [addOf, hy, hx]
        simp only [same_alike hs.swap, if_true]
        rw [canon_perm (fun p hp => hw p (by simp at hp ⊢; exact hp.symm)) List.perm_append_comm]
        exact h
      · refine ⟨_, ps, e1, hx, ?_, sum_txt hx⟩
        rw [addOf, hq, e2]
        have hwm : ∀ p ∈ canon (sclTm (-1) zs), p.2.wf := fun p hp => by
          obtain ⟨q, h1, e⟩ := mem_canon hp
          obtain ⟨r, h2, rfl⟩ := List.mem_map.1 h1
          rw [e]; exact hw2 r h2
        have hal : alike (canon (ps ++ zs)) (canon (sclTm (-1) zs)) = true := same_alike (fun a ha b hb => by
          have key : ∀ a ∈ canon (ps ++ zs) ++ canon (sclTm (-1) zs), ∃ q ∈ ps ++ zs, a.2 = q.2 := fun a ha => by
            rcases List.mem_append.1 ha with h1 | h1
            · exact mem_canon h1
            · obtain ⟨q, h2, e⟩ := mem_canon h1
              obtain ⟨r, h3, rfl⟩ := List.mem_map.1 h2
              exact ⟨r, by simp [h3], e⟩
          obtain ⟨q, h1, e⟩ := key a ha
          obtain ⟨r, h2, e'⟩ := key b hb
          rw [e, e']; exact hs q h1 r h2)
        simp only [hal, if_true]
        have hc : canon (canon (ps ++ zs) ++ canon (sclTm (-1) zs)) = canon ps := canon_congr (fun p hp => by
          rcases List.mem_append.1 hp with h1 | h1
          · obtain ⟨q, h2, e⟩ := mem_canon h1
            rw [e]; exact hw q h2
          · exact hwm p h1) hw1 (fun t => by
          have c1 := cf_canon (ps ++ zs) t
          have c2 := cf_canon (sclTm (-1) zs) t
          rw [cf_append] at c1 ⊢
          rw [cf_scl] at c2
          omega)
        rw [hc, canon_self hn1]
        exact outOf_yes hl1 (fun p hp => ⟨(ht1 p hp).2.1, (ht1 p hp).2.2.1⟩)
    · cases h
  · cases h

theorem fnScale_told {xs : List (Int × ByteArray)} {m : Int} {qs : List Tm} (h : sclOf xs m = some qs) : ∃ rs, addOf (txtTm qs) xs = some rs ∧ ∀ us, sclOf xs (m + 1) = some us → us = rs := by
  have h0 := h
  unfold sclOf at h
  split at h
  · cases h
  · rename_i ps hx
    split at h
    · rename_i hm
      obtain ⟨hl1, ht1, hn1⟩ := sum_trees hx
      have hw1 : ∀ p ∈ ps, p.2.wf := fun p hp => (ht1 p hp).1
      obtain ⟨e1, e2⟩ := scl_told hx m hm.1 hm.2
      have eq : qs = canon (sclTm m ps) := by rw [e1] at h0; exact (Option.some.inj h0).symm
      subst eq
      have hws : ∀ (n : Int), ∀ p ∈ sclTm n ps, p.2.wf ∧ p.2.leaves ≤ 12 ∧ p.2.nodes ≤ 16 := fun n p hp => by
        obtain ⟨q, hq, rfl⟩ := List.mem_map.1 hp
        exact ⟨(ht1 q hq).1, (ht1 q hq).2.1, (ht1 q hq).2.2.1⟩
      have hc : canon (canon (sclTm m ps) ++ ps) = canon (sclTm (m + 1) ps) := canon_congr (fun p hp => by
        rcases List.mem_append.1 hp with h1 | h1
        · obtain ⟨q, h2, e⟩ := mem_canon h1
          rw [e]; exact (hws m q h2).1
        · exact hw1 p h1) (fun p hp => (hws (m + 1) p hp).1) (fun t => by
        have c1 := cf_canon (sclTm m ps) t
        rw [cf_append, cf_scl]
        rw [cf_scl] at c1
        have : (m + 1) * cf ps t = m * cf ps t + cf ps t := by rw [Int.add_mul, Int.one_mul]
        omega)
      refine ⟨canon (sclTm (m + 1) ps), ?_, fun us hu => ?_⟩
      · rw [addOf, e2, hx]
        have hal : alike (canon (sclTm m ps)) ps = true := same_alike (fun a ha b hb => by
          have key : ∀ a ∈ canon (sclTm m ps) ++ ps, ∃ q ∈ ps, a.2 = q.2 := fun a ha => by
            rcases List.mem_append.1 ha with h1 | h1
            · obtain ⟨q, h2, e⟩ := mem_canon h1
              obtain ⟨r, h3, rfl⟩ := List.mem_map.1 h2
              exact ⟨r, h3, e⟩
            · exact ⟨a, h1, rfl⟩
          obtain ⟨q, h1, e⟩ := key a ha
          obtain ⟨r, h2, e'⟩ := key b hb
          rw [e, e']; exact sum_same hx q h1 r h2)
        simp only [hal, if_true]
        rw [hc]
        exact outOf_yes (by have := canon_length (sclTm (m + 1) ps); rw [sclTm_length] at this; omega) (canon_bnd (fun p hp => (hws (m + 1) p hp).2))
      · unfold sclOf at hu
        rw [hx] at hu
        simp only at hu
        split at hu
        · exact (outOf_some hu).1
        · cases hu
    · cases h

theorem fnMirror_told {xs : List (Int × ByteArray)} {qs : List Tm} (h : mirOf xs = some qs) : ∃ ps, sumOf xs = some ps ∧ mirOf (txtTm qs) = some ps ∧ txtTm ps = xs ∧ qs.length = xs.length := by
  unfold mirOf at h
  split at h
  · cases h
  · rename_i ps hx
    obtain ⟨rfl, hl, ht⟩ := outOf_some h
    obtain ⟨hl1, ht1, hn1⟩ := sum_trees hx
    have hw1 : ∀ p ∈ ps, p.2.wf := fun p hp => (ht1 p hp).1
    have hm := mirTm_ok (L := 12) (N := 16) (fun p hp => ⟨(ht1 p hp).1, (ht1 p hp).2.1, (ht1 p hp).2.2.1⟩)
    have hs : Same (mirTm ps) := fun p hp q hq => by
      obtain ⟨p', h1, rfl⟩ := List.mem_map.1 hp
      obtain ⟨q', h2, rfl⟩ := List.mem_map.1 hq
      have e1 := (mirror_size p'.2).1
      have e2 := (mirror_size q'.2).1
      have := sum_same hx p' h1 q' h2
      show p'.2.mirror.leaves = q'.2.mirror.leaves
      omega
    have hq := ok_sum (NF.canon (fun p hp => (hm p hp).1)) hl ht hs.canon
    have hcw : ∀ p ∈ canon (mirTm ps), p.2.wf := fun p hp => by
      obtain ⟨q, h1, e⟩ := mem_canon hp
      rw [e]; exact (hm q h1).1
    have hc : canon (mirTm (canon (mirTm ps))) = canon ps := canon_wf (fun p hp => by
      obtain ⟨q, h1, rfl⟩ := List.mem_map.1 hp
      exact mirror_wf _ (hcw q h1)) hw1 (fun t ht => by
      rw [cf_mir _ _ hcw ht]
      have c1 := cf_canon (mirTm ps) t.mirror
      rw [cf_mir _ _ hw1 (mirror_wf _ ht), mir_mir] at c1
      exact c1)
    rw [canon_self hn1] at hc
    refine ⟨ps, hx, ?_, sum_txt hx, ?_⟩
    · rw [mirOf, hq]
      simp only [hc]
      exact outOf_yes hl1 (fun p hp => ⟨(ht1 p hp).2.1, (ht1 p hp).2.2.1⟩)
    · have l1 := canon_length (mirTm ps)
      have l2 := canon_length (mirTm (canon (mirTm ps)))
      rw [hc, mirTm_length] at l2
      rw [mirTm_length] at l1
      have := (sumOf_ok hx).1
      omega

theorem nf_cf_range : ∀ {ps : List Tm} (t : T), NF ps → 0 ≤ cf ps t ∧ cf ps t < 101
  | [], t, _ => by simp [cf]
  | p :: ps, t, h => by
    by_cases h0 : ordT p.2 t = 0
    · rw [← cf_congr _ h0, h.cf_head]
      have := h.2 p (by simp)
      omega
    · rw [cf, if_neg h0]
      have := nf_cf_range t h.tail
      omega

theorem fnCoef_told {xs : List (Int × ByteArray)} {s : ByteArray} (h : 0 ≤ coefV xs s) : ∃ ms, sclOf xs (-1) = some ms ∧ coefV xs s < 101 ∧ (coefV xs s + coefV (txtTm ms) s) % 101 = 0 ∧ 0 ≤ coefV (txtTm ms) s ∧ coefV (txtTm ms) s < 101 := by
  cases hx : sumOf xs with
  | none => rw [coefV_no1 hx] at h; omega
  | some ps =>
    cases hp : parse s.data.toList with
    | none => rw [coefV_no2 hp] at h; omega
    | some t =>
      obtain ⟨e1, e2⟩ := scl_told hx (-1) (by omega) (by omega)
      obtain ⟨_, ht, hn⟩ := sum_trees hx
      refine ⟨_, e1, ?_⟩
      rw [coefV_yes hx hp, coefV_yes e2 hp]
      have hw : ∀ p ∈ sclTm (-1) ps, p.2.wf := fun p hp => by
        obtain ⟨q, hq, rfl⟩ := List.mem_map.1 hp
        exact (ht q hq).1
      have r1 := nf_cf_range t hn
      have r2 := nf_cf_range t (NF.canon hw)
      have c := cf_canon (sclTm (-1) ps) t
      rw [cf_scl] at c
      exact ⟨r1.2, by omega, r2.1, r2.2⟩

theorem fnLead_told {xs : List (Int × ByteArray)} {ps : List Tm} (h : sumOf xs = some ps) (h0 : 0 < xs.length) : coefV xs (xs[0]).2 = (xs[0]).1 ∧ ∃ t, parse (xs[0]).2.data.toList = some t ∧ ∀ j (hj : j < xs.length), ∃ u, parse (xs[j]).2.data.toList = some u ∧ ordT u t ≤ 0 := by
  have hr := sum_reads h
  have hl := hr.length
  obtain ⟨_, ht, hn⟩ := sum_trees h
  have hk : ∀ j (hj : j < xs.length), (xs[j]).1 = (ps[j]'(by omega)).1 ∧ parse (xs[j]).2.data.toList = some (ps[j]'(by omega)).2 := fun j hj => by
    have := congrArg (fun l => l[j]?) hr
    simp only [List.getElem?_map, List.getElem?_eq_getElem hj, List.getElem?_eq_getElem (show j < ps.length by omega), Option.map_some, Option.some.injEq, Prod.mk.injEq] at this
    exact this
  obtain ⟨a0, p0⟩ := hk 0 h0
  refine ⟨?_, _, p0, fun j hj => ⟨_, (hk j hj).2, ?_⟩⟩
  · rw [coefV_yes h p0, a0]
    cases ps with
    | nil => simp only [List.length_nil] at hl; omega
    | cons p ps => exact hn.cf_head
  · by_cases hj0 : j = 0
    · subst hj0
      rw [isCmp_ordT.self]; omega
    · have := List.pairwise_iff_getElem.1 hn.1 0 j (by omega) (by omega) (by omega)
      have := isCmp_ordT.anti (ps[0]'(by omega)).2 (ps[j]'(by omega)).2
      omega

end Go.Proofs.YtapobhnhnldlkaaGreat
end
section
/- Two sums compared; what the calls answer where they are told; sums that are drawn for the promises. -/
namespace Go.Proofs.YtapobhnhnldlkaaGreat
open Go.RowKit

theorem TermL.o {w : World} {g : Nat} {ys : List (Int × ByteArray)} (h : TermL w g ys) : TermO w (some ⟨g, 0, none⟩) ys := fun j hj => by
  obtain ⟨h1, h2⟩ := h j hj
  exact ⟨g, 0, rfl, by rw [Nat.zero_add]; exact h1, by rw [Nat.zero_add]; exact h2⟩

theorem TermO.none {w : World} {a : Option Addr} : TermO w a [] := fun _ h => by simp at h

/-- A list is told, new. -/
def GotL (zs : List (Int × ByteArray)) (N : Nat) (w : World) (e : Ending) (w' : World) : Prop :=
  Below w.heap.size w w' ∧ ∃ g c, e = .returned (.tuple #[.slice (some ⟨g, 0, none⟩) N c, .bool true]) ∧ TermL w' g zs
def LostL (w : World) (e : Ending) (w' : World) : Prop := Below w.heap.size w w' ∧ ∃ a c, e = .returned (.tuple #[.slice a 0 c, .bool false])

theorem TermsPost.gotL {qs : List Tm} {zs : List (Int × ByteArray)} {N : Nat} {w w' : World} {e : Ending} (h : TermsPost (some qs) w e w') (hN : N = qs.length) (hz : txtTm qs = zs) : GotL zs N w e w' := by
  obtain ⟨hB, ⟨h1, _⟩ | ⟨qs', g, c, cur, h1, rfl, _, _, _, h2⟩⟩ := h
  · cases h1
  · cases h1
    subst hN
    subst hz
    exact ⟨hB, g, c, rfl, h2⟩
theorem TermsPost.lostL {w w' : World} {e : Ending} (h : TermsPost none w e w') : LostL w e w' := by
  obtain ⟨hB, ⟨_, a, c, rfl⟩ | ⟨qs', g, c, cur, h1, _⟩⟩ := h
  · exact ⟨hB, a, c, rfl⟩
  · cases h1

theorem TmSmall.size {ys : List (Int × ByteArray)} (h : TmSmall ys) : ∀ j (h : j < ys.length), (ys[j]).2.size ≤ 1048576 := fun j hj => by have := (h j hj).1; omega

theorem outOf_txt {ps qs : List Tm} (h : outOf ps = some qs) (hc : ∀ p ∈ ps, 1 ≤ p.1 ∧ p.1 ≤ 100) : TmSmall (txtTm qs) := by
  obtain ⟨rfl, _, ht⟩ := outOf_some h
  exact txt_small (fun p hp => ⟨(ht p hp).1, (ht p hp).2, (hc p hp).1, (hc p hp).2⟩)

/-- A list of terms is drawn. -/
def DrL (w : World) (e : Ending) (w' : World) : Prop :=
  Below w.heap.size w w' ∧ ∃ (ys : List (Int × ByteArray)) (g n c : Nat), e = .returned (.slice (some ⟨g, 0, none⟩) n c) ∧ n = ys.length ∧ n ≤ 60 ∧ TmSmall ys ∧ TermL w' g ys

theorem SumDr.size {R : Nat} {a : Option Addr} {cap : Nat} {bs : List Nat} {p : Nat} {w w' : World} {e : Ending} (h : SumDr R a cap bs p w e w') : w.heap.size ≤ w'.heap.size := h.1.size

/-- A list of terms and a number are drawn. -/
def DrLI (w : World) (e : Ending) (w' : World) : Prop :=
  Below w.heap.size w w' ∧ ∃ (ys : List (Int × ByteArray)) (g n c : Nat) (z : Int), e = .returned (.tuple #[.slice (some ⟨g, 0, none⟩) n c, .int .i64 z]) ∧ n = ys.length ∧ n ≤ 60 ∧ TmSmall ys ∧ TermL w' g ys ∧ -1000 ≤ z ∧ z ≤ 1000

/-- A list lies as before where the reader alone has moved. -/
theorem TermL.moved {w w' : World} {R g : Nat} {ys : List (Int × ByteArray)} (h : TermL w g ys) (hg : w.grownBy w' (some R)) (hne : g ≠ R) : TermL w' g ys := fun j hj => by
  obtain ⟨h1, h2⟩ := h j hj
  exact ⟨keeps_row hg (fun b => b ≠ R) (fun b h => h) _ _ hne h1, keeps_row hg (fun b => b ≠ R) (fun b h => h) _ _ hne h2⟩

/-- Two lists of terms are drawn. -/
def DrLL (w : World) (e : Ending) (w' : World) : Prop :=
  Below w.heap.size w w' ∧ ∃ (ys zs : List (Int × ByteArray)) (g n c g' n' c' : Nat), e = .returned (.tuple #[.slice (some ⟨g, 0, none⟩) n c, .slice (some ⟨g', 0, none⟩) n' c']) ∧ n = ys.length ∧ n ≤ 60 ∧ TmSmall ys ∧ TermL w' g ys ∧ n' = zs.length ∧ n' ≤ 60 ∧ TmSmall zs ∧ TermL w' g' zs

end Go.Proofs.YtapobhnhnldlkaaGreat
end
section
/- The promises on sums: FnSum, FnSumMirror, FnScale, FnAdd. -/
namespace Go.Proofs.YtapobhnhnldlkaaGreat
open Go.RowKit

theorem Ans.is {v v' : Value} {w w' : World} {e : Ending} (h : Ans v w e w') (hv : v = v') : Ans v' w e w' := by rw [← hv]; exact h
theorem TermsPost.gotO {o : Option (List Tm)} {qs : List Tm} {zs : List (Int × ByteArray)} {N : Nat} {w w' : World} {e : Ending} (ho : o = some qs) (hN : N = qs.length) (hz : txtTm qs = zs) (h : TermsPost o w e w') : GotL zs N w e w' := by
  rw [ho] at h; exact h.gotL hN hz
theorem TermsPost.lostO {o : Option (List Tm)} {w w' : World} {e : Ending} (ho : o = none) (h : TermsPost o w e w') : LostL w e w' := by
  rw [ho] at h; exact h.lostL

theorem mirOf_sum {xs : List (Int × ByteArray)} {qs : List Tm} (h : mirOf xs = some qs) : ∃ ps, sumOf xs = some ps := by
  unfold mirOf at h; split at h
  · cases h
  · exact ⟨_, by assumption⟩
theorem sclOf_sum {xs : List (Int × ByteArray)} {m : Int} {qs : List Tm} (h : sclOf xs m = some qs) : ∃ ps, sumOf xs = some ps := by
  unfold sclOf at h; split at h
  · cases h
  · exact ⟨_, by assumption⟩
theorem addOf_sum {xs ys : List (Int × ByteArray)} {qs : List Tm} (h : addOf xs ys = some qs) : (∃ ps, sumOf xs = some ps) ∧ ∃ ps, sumOf ys = some ps := by
  unfold addOf at h; split at h
  · exact ⟨⟨_, by assumption⟩, ⟨_, by assumption⟩⟩
  · cases h
/-- The texts of a sum are short, and it is short. -/
theorem sum_size {xs : List (Int × ByteArray)} (h : ∃ ps, sumOf xs = some ps) : xs.length ≤ 60 ∧ ∀ j (h : j < xs.length), (xs[j]).2.size ≤ 1048576 := by
  obtain ⟨ps, hs⟩ := h
  have e := sum_txt hs
  obtain ⟨h1, h2, _⟩ := sum_trees hs
  have hl := (sumOf_ok hs).1
  refine ⟨by omega, fun j hj => ?_⟩
  have h3 := (txt_small (qs := ps) (fun p hp => ⟨(h2 p hp).2.1, (h2 p hp).2.2.1, (h2 p hp).2.2.2.1, (h2 p hp).2.2.2.2⟩) j (by rw [txtTm_length]; omega)).1
  have e2 : (txtTm ps)[j]'(by rw [txtTm_length]; omega) = xs[j] := by simp only [e]
  rw [e2] at h3
  omega

end Go.Proofs.YtapobhnhnldlkaaGreat
end
