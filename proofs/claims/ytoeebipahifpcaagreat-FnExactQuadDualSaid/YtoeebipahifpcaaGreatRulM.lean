/- Rules as mathematics; the number that turns a coefficient to 1. No walk here. -/
import Derived.Test.YtoeebipahifpcaaGreatKBndX
namespace Go.Proofs.YtoeebipahifpcaaGreat

/-- A rule: the term of its head, and the terms behind it. -/
abbrev Rl := Tm × List Tm

def ruleOf (xs : List (Int × ByteArray)) : Option Rl :=
  match sumOf xs with
  | none => none
  | some [] => none
  | some (p :: ps) =>
    match p.2 with
    | .leaf => none
    | .node _ _ => some (p, ps)

theorem ruleOf_no {xs : List (Int × ByteArray)} (h : sumOf xs = none) : ruleOf xs = none := by rw [ruleOf, h]
theorem ruleOf_zero {xs : List (Int × ByteArray)} (h : sumOf xs = some []) : ruleOf xs = none := by rw [ruleOf, h]
theorem ruleOf_leaf {xs : List (Int × ByteArray)} {p : Tm} {ps : List Tm} (h : sumOf xs = some (p :: ps)) (hp : p.2 = .leaf) : ruleOf xs = none := by simp only [ruleOf, h, hp]
theorem ruleOf_yes {xs : List (Int × ByteArray)} {p : Tm} {ps : List Tm} {c : UInt8} {ks : List T} (h : sumOf xs = some (p :: ps)) (hp : p.2 = .node c ks) : ruleOf xs = some (p, ps) := by simp only [ruleOf, h, hp]

/-- What is known of a rule that has been read. -/
theorem ruleOf_ok {xs : List (Int × ByteArray)} {r : Rl} (h : ruleOf xs = some r) : sumOf xs = some (r.1 :: r.2) ∧ ∃ c ks, r.1.2 = .node c ks := by
  unfold ruleOf at h
  split at h
  · cases h
  · cases h
  · rename_i p ps hs
    split at h
    · cases h
    · rename_i c ks hp
      cases h
      exact ⟨hs, c, ks, hp⟩

def rlStep (acc : Option (List Rl)) (xs : List (Int × ByteArray)) : Option (List Rl) :=
  match acc, ruleOf xs with
  | some rs, some r => some (rs ++ [r])
  | _, _ => none

def rlAll (xss : List (List (Int × ByteArray))) : Option (List Rl) := xss.foldl rlStep (some [])

theorem rlAll_nil : rlAll [] = some [] := rfl
theorem rlStep_no (acc : Option (List Rl)) {xs : List (Int × ByteArray)} (h : ruleOf xs = none) : rlStep acc xs = none := by
  unfold rlStep; rw [h]; cases acc <;> rfl
theorem rlStep_yes (rs : List Rl) {xs : List (Int × ByteArray)} {r : Rl} (h : ruleOf xs = some r) : rlStep (some rs) xs = some (rs ++ [r]) := by
  unfold rlStep; rw [h]
theorem rlFold_none (xss : List (List (Int × ByteArray))) : xss.foldl rlStep none = none := by
  induction xss with
  | nil => rfl
  | cons x xss ih => exact ih
theorem rlAll_none {xss : List (List (Int × ByteArray))} {k : Nat} (h : rlAll (xss.take k) = none) : rlAll xss = none := by
  have : rlAll (xss.take k ++ xss.drop k) = none := by
    rw [rlAll, List.foldl_append]
    rw [rlAll] at h
    rw [h, rlFold_none]
  rwa [List.take_append_drop] at this
theorem rlAll_take {xss : List (List (Int × ByteArray))} {k : Nat} (h : k < xss.length) : rlAll (xss.take (k + 1)) = rlStep (rlAll (xss.take k)) xss[k] := by
  rw [List.take_succ_eq_append_getElem h, rlAll, List.foldl_append]; rfl
theorem rl_bad {xss : List (List (Int × ByteArray))} {k : Nat} (h : k < xss.length) (hr : ruleOf xss[k] = none) : rlAll xss = none :=
  rlAll_none (k := k + 1) (by rw [rlAll_take h, rlStep_no _ hr])
theorem rl_good {xss : List (List (Int × ByteArray))} {k : Nat} {rs : List Rl} {r : Rl} (h : k < xss.length) (ha : rlAll (xss.take k) = some rs) (hr : ruleOf xss[k] = some r) : rlAll (xss.take (k + 1)) = some (rs ++ [r]) := by
  rw [rlAll_take h, ha, rlStep_yes _ hr]
theorem rlAll_length : ∀ (n : Nat) (xss : List (List (Int × ByteArray))) (rs : List Rl), xss.length = n → rlAll xss = some rs → rs.length = n := by
  intro n
  induction n with
  | zero =>
    intro xss rs hn h
    have : xss = [] := List.length_eq_zero_iff.1 hn
    subst this
    rw [rlAll_nil] at h
    cases h; rfl
  | succ n ih =>
    intro xss rs hn h
    have e : xss = xss.take (n + 1) := by rw [List.take_of_length_le (by omega)]
    rw [e, rlAll_take (by omega)] at h
    cases ha : rlAll (xss.take n) with
    | none => rw [ha] at h; cases h
    | some qs =>
      rw [ha] at h
      have hq := ih (xss.take n) qs (by rw [List.length_take]; omega) ha
      cases hr : ruleOf xss[n] with
      | none => rw [rlStep_no _ hr] at h; cases h
      | some r =>
        rw [rlStep_yes _ hr] at h
        cases h
        simp [hq]

/-- The rules that a list is. -/
def rulesOf (xss : List (List (Int × ByteArray))) : Option (List Rl) := if 10 < xss.length then none else rlAll xss

/-- What times a number is 1 modulo 101. -/
def inv101 (n : Nat) : Nat := n ^ 99 % 101

theorem inv101_lt (n : Nat) : inv101 n < 101 := Nat.mod_lt _ (by decide)
theorem inv101_mul : ∀ n, n < 101 → 0 < n → n * inv101 n % 101 = 1 := by decide +kernel
theorem inv101_only : ∀ n, n < 101 → ∀ k, k < 101 → n * k % 101 = 1 → k = inv101 n := by decide +kernel
theorem inv101_pos {n : Nat} (h : n < 101) (h0 : 0 < n) : 0 < inv101 n := by
  rcases Nat.eq_zero_or_pos (inv101 n) with e | e
  · have := inv101_mul n h h0
    rw [e] at this
    simp at this
  · exact e

end Go.Proofs.YtoeebipahifpcaaGreat
