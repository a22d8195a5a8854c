/- The places of patterns in a tree, node by node: plain mathematics. -/
import Derived.Test.YtlmedcmheninaaaMatM
namespace Go.Proofs.Ytlmedcmheninaaa

mutual
/-- The parts of a tree that begin with a node, in the order of its text. -/
def T.subs : T → List T
  | .leaf => []
  | .node c ks => .node c ks :: T.subsL ks
def T.subsL : List T → List T
  | [] => []
  | k :: ks => k.subs ++ T.subsL ks
end

mutual
theorem subs_length : ∀ t : T, t.subs.length = t.nodes
  | .leaf => by rw [T.subs, T.nodes]; rfl
  | .node c ks => by
    have := subsL_length ks
    rw [T.subs, T.nodes, List.length_cons]; omega
theorem subsL_length : ∀ ks : List T, (T.subsL ks).length = T.nodesL ks
  | [] => by rw [T.subsL, T.nodesL]; rfl
  | k :: ks => by
    have h1 := subs_length k
    have h2 := subsL_length ks
    rw [T.subsL, T.nodesL, List.length_append]; omega
end

mutual
/-- What is cut off at a node is the part that begins there. -/
theorem subs_cut : ∀ (t : T) (k : Nat) (r p : T) (a : Nat), t.cutAt k = some (r, p, a) → t.subs[k]? = some p
  | .leaf, k, r, p, a, h => by rw [T.cutAt] at h; cases h
  | .node c ks, k, r, p, a, h => by
    rw [T.cutAt] at h
    rw [T.subs]
    by_cases h0 : k = 0
    · rw [if_pos h0] at h
      simp only [Option.some.injEq, Prod.mk.injEq] at h
      subst h0
      rw [← h.2.1]; rfl
    · rw [if_neg h0] at h
      cases hc : T.cutL ks (k - 1) with
      | none => rw [hc] at h; cases h
      | some v =>
        obtain ⟨rs, q, b⟩ := v
        rw [hc] at h
        simp only [Option.some.injEq, Prod.mk.injEq] at h
        have := subsL_cut ks (k - 1) rs q b hc
        rw [h.2.1] at this
        rw [show k = (k - 1) + 1 by omega, List.getElem?_cons_succ]
        exact this
theorem subsL_cut : ∀ (ks : List T) (k : Nat) (rs : List T) (p : T) (a : Nat), T.cutL ks k = some (rs, p, a) → (T.subsL ks)[k]? = some p
  | [], k, rs, p, a, h => by rw [T.cutL] at h; cases h
  | t :: ts, k, rs, p, a, h => by
    rw [T.cutL] at h
    rw [T.subsL]
    have hl := subs_length t
    cases hc : t.cutAt k with
    | some v =>
      obtain ⟨r, q, b⟩ := v
      rw [hc] at h
      simp only [Option.some.injEq, Prod.mk.injEq] at h
      have h1 := subs_cut t k r q b hc
      rw [h.2.1] at h1
      have hk : k < t.subs.length := (List.getElem?_eq_some_iff.1 h1).1
      rw [List.getElem?_append_left hk]
      exact h1
    | none =>
      rw [hc] at h
      simp only at h
      have hk : t.nodes ≤ k := by
        by_cases hk : k < t.nodes
        · obtain ⟨r, q, b, e⟩ := cutAt_some t k hk
          rw [e] at hc; cases hc
        · omega
      cases hc2 : T.cutL ts (k - t.nodes) with
      | none => rw [hc2] at h; cases h
      | some v =>
        obtain ⟨r, q, b⟩ := v
        rw [hc2] at h
        simp only [Option.some.injEq, Prod.mk.injEq] at h
        have h1 := subsL_cut ts (k - t.nodes) r q b hc2
        rw [h.2.1] at h1
        rw [List.getElem?_append_right (by omega), hl]
        exact h1
end

/-- A place: which pattern, which node, what is at the pattern's leaves. -/
abbrev Pl := Nat × Nat × List T

def stOf (ps : List T) (x : T) (at' i : Nat) : Option Pl :=
  match ps[i]? with
  | none => none
  | some p => (p.partsOf x).map (fun ts => (i, at', ts))

/-- The places of the first k patterns at one node. -/
def stRow (ps : List T) (x : T) (at' k : Nat) : List Pl := (List.range k).filterMap (stOf ps x at')
/-- The places at the first nodes. -/
def stUp (ps : List T) : List T → Nat → List Pl
  | [], _ => []
  | x :: xs, at' => stRow ps x at' ps.length ++ stUp ps xs (at' + 1)
/-- All places in a tree. -/
def stAll (ps : List T) (t : T) : List Pl := stUp ps t.subs 0

theorem stRow_zero (ps : List T) (x : T) (a : Nat) : stRow ps x a 0 = [] := rfl
theorem stRow_succ (ps : List T) (x : T) (a k : Nat) : stRow ps x a (k + 1) = stRow ps x a k ++ (stOf ps x a k).toList := by
  rw [stRow, stRow, List.range_succ, List.filterMap_append]
  congr 1
theorem stOf_some {ps : List T} {x : T} {a i : Nat} (h : i < ps.length) {ts : List T} (hp : (ps[i]).partsOf x = some ts) : stOf ps x a i = some (i, a, ts) := by
  rw [stOf, List.getElem?_eq_getElem h]; simp only; rw [hp]; rfl
theorem stOf_none {ps : List T} {x : T} {a i : Nat} (h : i < ps.length) (hp : (ps[i]).partsOf x = none) : stOf ps x a i = none := by
  rw [stOf, List.getElem?_eq_getElem h]; simp only; rw [hp]; rfl

theorem stUp_append (ps : List T) : ∀ (xs ys : List T) (a : Nat), stUp ps (xs ++ ys) a = stUp ps xs a ++ stUp ps ys (a + xs.length)
  | [], ys, a => by simp [stUp]
  | x :: xs, ys, a => by
    rw [List.cons_append, stUp, stUp, stUp_append ps xs ys (a + 1), List.append_assoc, List.length_cons]
    rw [show a + 1 + xs.length = a + (xs.length + 1) by omega]
theorem stUp_snoc (ps : List T) (xs : List T) (x : T) : stUp ps (xs ++ [x]) 0 = stUp ps xs 0 ++ stRow ps x xs.length ps.length := by
  rw [stUp_append, Nat.zero_add, stUp, stUp, List.append_nil]

theorem stRow_prefix (ps : List T) (x : T) (a : Nat) {i k : Nat} (h : i ≤ k) : stRow ps x a i <+: stRow ps x a k := by
  induction k with
  | zero => have : i = 0 := by omega
            subst this; exact List.prefix_refl _
  | succ k ih =>
    by_cases e : i = k + 1
    · subst e; exact List.prefix_refl _
    · rw [stRow_succ]; exact (ih (by omega)).trans (List.prefix_append _ _)

/-- What has come when the first i patterns are asked at the node behind a prefix of the nodes is a prefix of all. -/
theorem stAll_prefix {ps : List T} {t : T} {pre : List T} {x : T} {rest : List T} (h : t.subs = pre ++ x :: rest) {i : Nat} (hi : i ≤ ps.length) : stUp ps pre 0 ++ stRow ps x pre.length i <+: stAll ps t := by
  rw [stAll, h, stUp_append, Nat.zero_add, stUp]
  obtain ⟨q, hq⟩ := stRow_prefix ps x pre.length hi
  rw [← hq]
  refine ⟨q ++ stUp ps rest (pre.length + 1), ?_⟩
  simp only [List.append_assoc]
end Go.Proofs.Ytlmedcmheninaaa
