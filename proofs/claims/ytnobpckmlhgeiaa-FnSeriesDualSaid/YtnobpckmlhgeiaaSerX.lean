/- Series: products go both ways, composing goes in any brackets, inverses are inverse on both sides. -/
import Derived.Test.YtnobpckmlhgeiaaSerM
namespace Go.Proofs.Ytnobpckmlhgeiaa

theorem serSum_add (f g : Nat → Int) (n : Nat) : serSum (fun i => f i + g i) n = serSum f n + serSum g n := by
  induction n with
  | zero => rfl
  | succ n ih => simp only [serSum]; rw [ih]; omega

theorem serSum_mul (c : Int) (f : Nat → Int) (n : Nat) : serSum (fun i => c * f i) n = c * serSum f n := by
  induction n with
  | zero => simp [serSum]
  | succ n ih => simp only [serSum]; rw [ih, Int.mul_add]

theorem serSum_mulr (c : Int) (f : Nat → Int) (n : Nat) : serSum (fun i => f i * c) n = serSum f n * c := by
  induction n with
  | zero => simp [serSum]
  | succ n ih => simp only [serSum]; rw [ih, Int.add_mul]

theorem serSum_swap (F : Nat → Nat → Int) (n m : Nat) : serSum (fun i => serSum (fun j => F i j) m) n = serSum (fun j => serSum (fun i => F i j) n) m := by
  induction n with
  | zero => simp only [serSum]; exact (serSum_zero fun _ _ => rfl).symm
  | succ n ih => simp only [serSum]; rw [ih, ← serSum_add]

theorem serSum_more {f : Nat → Int} {n m : Nat} (h : n ≤ m) (h0 : ∀ j, n ≤ j → j < m → f j = 0) : serSum f m = serSum f n := by
  induction m with
  | zero => obtain rfl : n = 0 := by omega
            rfl
  | succ m ih =>
    by_cases e : n = m + 1
    · rw [e]
    · rw [serSum, ih (by omega) (fun j h1 h2 => h0 j h1 (by omega)), h0 m (by omega) (by omega), Int.add_zero]

theorem serSum_one (F : Nat → Int) (k M : Nat) : serSum (fun i => if i = k then F i else 0) M = if k < M then F k else 0 := by
  induction M with
  | zero => simp [serSum]
  | succ M ih =>
    rw [serSum, ih]
    by_cases e : M = k
    · subst e
      rw [if_neg (by omega), if_pos rfl, if_pos (by omega)]; omega
    · rw [if_neg e]
      by_cases h : k < M
      · rw [if_pos h, if_pos (by omega)]; omega
      · rw [if_neg h, if_neg (by omega)]; rfl

/-- The product by pairs of powers. -/
theorem serNext_pairs (a b : Nat → Int) {j M : Nat} (h : j ≤ M) : serNext a b j = serSum (fun t => serSum (fun u => if t + u + 1 = j then a t * b u else 0) M) M := by
  cases j with
  | zero =>
    symm
    exact serSum_zero fun t _ => serSum_zero fun u _ => by rw [if_neg (by omega)]
  | succ i =>
    show serSum (fun k => a k * b (i - k)) (i + 1) = _
    have e : ∀ t, t < M → serSum (fun u => if t + u + 1 = i + 1 then a t * b u else 0) M = if t < i + 1 then a t * b (i - t) else 0 := by
      intro t ht
      by_cases hti : t ≤ i
      · rw [if_pos (by omega)]
        rw [serSum_congr (g := fun u => if u = i - t then a t * b u else 0) (fun u _ => by
          by_cases e : u = i - t
          · rw [if_pos e, if_pos (by omega)]
          · rw [if_neg e, if_neg (by omega)])]
        rw [serSum_one (fun u => a t * b u), if_pos (by omega)]
      · rw [if_neg (by omega)]
        exact serSum_zero fun u _ => by rw [if_neg (by omega)]
    rw [serSum_congr e, serSum_more (n := i + 1) h (fun j h1 _ => by rw [if_neg (by omega)])]
    exact serSum_congr fun j hj => by rw [if_pos hj]

/-- Products go both ways. -/
theorem serNext_comm (a b : Nat → Int) (j : Nat) : serNext a b j = serNext b a j := by
  rw [serNext_pairs a b (Nat.le_refl j), serNext_pairs b a (Nat.le_refl j), serSum_swap]
  exact serSum_congr fun t _ => serSum_congr fun u _ => by
    by_cases e : u + t + 1 = j
    · rw [if_pos e, if_pos (by omega), Int.mul_comm]
    · rw [if_neg e, if_neg (by omega)]

theorem serMul_comm (a b : Nat → Int) (j : Nat) : serMul a b j = serMul b a j := serNext_comm a b (j + 1)

theorem ite_mul_l (p : Prop) [Decidable p] (x c : Int) : (if p then x else 0) * c = if p then x * c else 0 := by
  split
  · rfl
  · exact Int.zero_mul c
theorem ite_mul_r (p : Prop) [Decidable p] (x c : Int) : c * (if p then x else 0) = if p then c * x else 0 := by
  split
  · rfl
  · exact Int.mul_zero c

/-- Products of three go in any brackets. -/
theorem serNext_assoc (a b c : Nat → Int) (j : Nat) : serNext a (serNext b c) j = serNext (serNext a b) c j := by
  have L : serNext a (serNext b c) j = serSum (fun t => serSum (fun u => serSum (fun v => if t + u + v + 2 = j then a t * b u * c v else 0) j) j) j := by
    rw [serNext_pairs a (serNext b c) (Nat.le_refl j)]
    refine serSum_congr fun t ht => ?_
    have e1 : serSum (fun s => if t + s + 1 = j then a t * serNext b c s else 0) j = serSum (fun s => serSum (fun u => serSum (fun v => if s = u + v + 1 then (if t + s + 1 = j then a t * (b u * c v) else 0) else 0) j) j) j := by
      refine serSum_congr fun s hs => ?_
      rw [serNext_pairs b c (Nat.le_of_lt hs)]
      by_cases e : t + s + 1 = j
      · rw [if_pos e, ← serSum_mul]
        refine serSum_congr fun u _ => ?_
        rw [← serSum_mul]
        refine serSum_congr fun v _ => ?_
        rw [ite_mul_r]
        by_cases e2 : u + v + 1 = s
        · rw [if_pos e2, if_pos e2.symm, if_pos e]
        · rw [if_neg e2, if_neg (fun h => e2 h.symm)]
      · rw [if_neg e]
        symm
        exact serSum_zero fun u _ => serSum_zero fun v _ => by
          rw [if_neg e]
          split <;> rfl
    rw [e1, serSum_swap]
    refine serSum_congr fun u hu => ?_
    rw [serSum_swap]
    refine serSum_congr fun v hv => ?_
    rw [serSum_one (fun s => if t + s + 1 = j then a t * (b u * c v) else 0)]
    by_cases e : t + u + v + 2 = j
    · rw [if_pos e, if_pos (by omega), if_pos (by omega), Int.mul_assoc]
    · rw [if_neg e]
      split
      · rw [if_neg (by omega)]
      · rfl
  have R : serNext (serNext a b) c j = serSum (fun t => serSum (fun u => serSum (fun v => if t + u + v + 2 = j then a t * b u * c v else 0) j) j) j := by
    rw [serNext_pairs (serNext a b) c (Nat.le_refl j)]
    have e1 : ∀ s, s < j → serSum (fun v => if s + v + 1 = j then serNext a b s * c v else 0) j = serSum (fun t => serSum (fun u => serSum (fun v => if s = t + u + 1 then (if s + v + 1 = j then a t * b u * c v else 0) else 0) j) j) j := by
      intro s hs
      rw [serNext_pairs a b (Nat.le_of_lt hs)]
      have e2 : ∀ v, v < j → (if s + v + 1 = j then serSum (fun t => serSum (fun u => if t + u + 1 = s then a t * b u else 0) j) j * c v else 0) = serSum (fun t => serSum (fun u => if s = t + u + 1 then (if s + v + 1 = j then a t * b u * c v else 0) else 0) j) j := by
        intro v _
        by_cases e : s + v + 1 = j
        · rw [if_pos e, ← serSum_mulr]
          refine serSum_congr fun t _ => ?_
          rw [← serSum_mulr]
          refine serSum_congr fun u _ => ?_
          rw [ite_mul_l]
          by_cases e2 : t + u + 1 = s
          · rw [if_pos e2, if_pos e2.symm, if_pos e]
          · rw [if_neg e2, if_neg (fun h => e2 h.symm)]
        · rw [if_neg e]
          symm
          exact serSum_zero fun t _ => serSum_zero fun u _ => by
            rw [if_neg e]
            split <;> rfl
      rw [serSum_congr e2, serSum_swap]
      refine serSum_congr fun t _ => ?_
      rw [serSum_swap]
    rw [serSum_congr e1, serSum_swap]
    refine serSum_congr fun t ht => ?_
    rw [serSum_swap]
    refine serSum_congr fun u hu => ?_
    rw [serSum_swap]
    refine serSum_congr fun v hv => ?_
    rw [serSum_one (fun s => if s + v + 1 = j then a t * b u * c v else 0)]
    by_cases e : t + u + v + 2 = j
    · rw [if_pos e, if_pos (by omega), if_pos (by omega)]
    · rw [if_neg e]
      split
      · rw [if_neg (by omega)]
      · rfl
  rw [L, R]

/-- Powers add up. -/
theorem serPow_add (h : Nat → Int) (t u : Nat) : ∀ j, serNext (serPow h t) (serPow h u) j = serPow h (t + u + 1) j := by
  induction u with
  | zero => intro j; rfl
  | succ u ih =>
    intro j
    show serNext (serPow h t) (serNext (serPow h u) h) j = serNext (serPow h (t + u + 1)) h j
    rw [serNext_assoc]
    exact serNext_congr (fun k _ => ih k) (fun _ _ => rfl)

/-- Composing goes along products. -/
theorem serPart_next (a b h : Nat → Int) (n j : Nat) (hj : j < n) : serPart (serNext a b) h n j = serNext (serPart a h n) (serPart b h n) j := by
  have L : serPart (serNext a b) h n j = serSum (fun t => serSum (fun u => a t * b u * serPow h (t + u + 1) j) n) n := by
    show serSum (fun i => serNext a b i * serPow h i j) n = _
    have e1 : ∀ i, i < n → serNext a b i * serPow h i j = serSum (fun t => serSum (fun u => if i = t + u + 1 then a t * b u * serPow h i j else 0) n) n := by
      intro i hi
      rw [serNext_pairs a b (Nat.le_of_lt hi), ← serSum_mulr]
      refine serSum_congr fun t _ => ?_
      rw [← serSum_mulr]
      refine serSum_congr fun u _ => ?_
      rw [ite_mul_l]
      by_cases e : t + u + 1 = i
      · rw [if_pos e, if_pos e.symm]
      · rw [if_neg e, if_neg (fun h => e h.symm)]
    rw [serSum_congr e1, serSum_swap]
    refine serSum_congr fun t _ => ?_
    rw [serSum_swap]
    refine serSum_congr fun u _ => ?_
    rw [serSum_one (fun i => a t * b u * serPow h i j)]
    split
    · rfl
    · rw [serPow_low h _ j (by omega), Int.mul_zero]
  have R : serNext (serPart a h n) (serPart b h n) j = serSum (fun t => serSum (fun u => a t * b u * serNext (serPow h t) (serPow h u) j) n) n := by
    rw [serNext_pairs _ _ (Nat.le_of_lt hj)]
    have e1 : ∀ x, x < n → ∀ y, y < n → (if x + y + 1 = j then serPart a h n x * serPart b h n y else 0) = serSum (fun t => serSum (fun u => a t * b u * (if x + y + 1 = j then serPow h t x * serPow h u y else 0)) n) n := by
      intro x _ y _
      by_cases e : x + y + 1 = j
      · rw [if_pos e]
        show serSum (fun t => a t * serPow h t x) n * serSum (fun u => b u * serPow h u y) n = _
        rw [← serSum_mulr]
        refine serSum_congr fun t _ => ?_
        rw [← serSum_mul]
        refine serSum_congr fun u _ => ?_
        rw [if_pos e]
        rw [Int.mul_assoc, Int.mul_assoc, Int.mul_left_comm (serPow h t x)]
      · rw [if_neg e]
        symm
        exact serSum_zero fun t _ => serSum_zero fun u _ => by rw [if_neg e, Int.mul_zero]
    rw [serSum_congr (fun x hx => serSum_congr (fun y hy => e1 x hx y hy))]
    have e2 : ∀ x, x < n → serSum (fun y => serSum (fun t => serSum (fun u => a t * b u * (if x + y + 1 = j then serPow h t x * serPow h u y else 0)) n) n) n = serSum (fun t => serSum (fun u => serSum (fun y => a t * b u * (if x + y + 1 = j then serPow h t x * serPow h u y else 0)) n) n) n := by
      intro x _
      rw [serSum_swap]
      refine serSum_congr fun t _ => ?_
      rw [serSum_swap]
    rw [serSum_congr e2, serSum_swap]
    refine serSum_congr fun t _ => ?_
    rw [serSum_swap]
    refine serSum_congr fun u _ => ?_
    rw [serNext_pairs (serPow h t) (serPow h u) (Nat.le_of_lt hj), ← serSum_mul]
    refine serSum_congr fun x _ => ?_
    rw [← serSum_mul]
  rw [L, R]
  exact serSum_congr fun t _ => serSum_congr fun u _ => by rw [serPow_add]

/-- .. and along powers. -/
theorem serPart_pow (g h : Nat → Int) (n s : Nat) : ∀ j, j < n → serPart (serPow g s) h n j = serPow (serPart g h n) s j := by
  induction s with
  | zero => intro j _; rfl
  | succ s ih =>
    intro j hj
    show serPart (serNext (serPow g s) g) h n j = serNext (serPow (serPart g h n) s) (serPart g h n) j
    rw [serPart_next _ _ _ _ _ hj]
    exact serNext_congr (fun k hk => ih k (by omega)) (fun _ _ => rfl)

/-- Composing goes in any brackets. -/
theorem serPart_assoc (f g h : Nat → Int) (n j : Nat) (hj : j < n) : serPart (serPart f g n) h n j = serPart f (serPart g h n) n j := by
  show serSum (fun t => serSum (fun s => f s * serPow g s t) n * serPow h t j) n = serSum (fun s => f s * serPow (serPart g h n) s j) n
  rw [serSum_congr (g := fun t => serSum (fun s => f s * serPow g s t * serPow h t j) n) (fun t _ => by rw [serSum_mulr]), serSum_swap]
  refine serSum_congr fun s _ => ?_
  rw [← serPart_pow g h n s j hj]
  show _ = f s * serSum (fun t => serPow g s t * serPow h t j) n
  rw [← serSum_mul]
  exact serSum_congr fun t _ => by rw [Int.mul_assoc]

theorem serPow_x (m : Nat) : ∀ j, serPow serX m j = if j = m then 1 else 0 := by
  induction m with
  | zero => intro j; rfl
  | succ m ih =>
    intro j
    cases j with
    | zero => rw [if_neg (by omega)]; rfl
    | succ i =>
      show serSum (fun k => serPow serX m k * serX (i - k)) (i + 1) = _
      rw [serSum_congr (g := fun k => if k = m then serX (i - k) else 0) (fun k _ => by rw [ih, ite_mul_l, Int.one_mul]), serSum_one (fun k => serX (i - k))]
      unfold serX
      by_cases e : i = m
      · subst e; rw [if_pos (by omega), if_pos (by omega), if_pos rfl]
      · by_cases h : m < i + 1
        · rw [if_pos h, if_neg (by omega), if_neg (by omega)]
        · rw [if_neg h, if_neg (by omega)]

/-- x put for x. -/
theorem serPart_x (a : Nat → Int) (n j : Nat) (hj : j < n) : serPart a serX n j = a j := by
  show serSum (fun t => a t * serPow serX t j) n = a j
  rw [serSum_congr (g := fun t => if t = j then a t else 0) (fun t _ => by
    rw [serPow_x, ite_mul_r, Int.mul_one]
    by_cases e : j = t
    · rw [if_pos e, if_pos e.symm]
    · rw [if_neg e, if_neg (fun h => e h.symm)]), serSum_one a, if_pos hj]

theorem serX_part (a : Nat → Int) (n j : Nat) (hn : 0 < n) : serPart serX a n j = a j := by
  show serSum (fun t => serX t * serPow a t j) n = a j
  rw [serSum_congr (g := fun t => if t = 0 then serPow a t j else 0) (fun t _ => by unfold serX; rw [ite_mul_l, Int.one_mul]), serSum_one (fun t => serPow a t j), if_pos hn]
  rfl

theorem serPow_diag {u : Nat → Int} (h : u 0 = 1) (t : Nat) : serPow u t t = 1 := by
  induction t with
  | zero => exact h
  | succ t ih =>
    show serSum (fun k => serPow u t k * u (t - k)) (t + 1) = 1
    rw [serSum, serSum_zero (fun k hk => by rw [serPow_low u t k hk, Int.zero_mul]), ih, Nat.sub_self, h]
    rfl

theorem serPart_cut (a u : Nat → Int) {n j : Nat} (hj : j < n) : serPart a u n j = serPart a u j j + a j * serPow u j j := by
  show serSum _ n = _
  rw [serSum_more (n := j + 1) (by omega) (fun t h1 _ => by rw [serPow_low u t j (by omega), Int.mul_zero])]
  rfl

/-- What is put can be taken off. -/
theorem ser_cancel {a b u : Nat → Int} {n : Nat} (hu : u 0 = 1) (h : ∀ j, j < n → serPart a u n j = serPart b u n j) : ∀ j, j < n → a j = b j := by
  intro j
  induction j using Nat.strongRecOn with
  | ind j ih =>
    intro hj
    have h1 := h j hj
    rw [serPart_cut a u hj, serPart_cut b u hj, serPow_diag hu] at h1
    have h2 : serPart a u j j = serPart b u j j := serPart_congr (fun t ht => ih t ht (by omega)) (fun _ _ => rfl)
    omega

/-- A power asks only for numbers so far. -/
theorem serPow_dep {g g' : Nat → Int} (t : Nat) : ∀ j, (∀ i, i + t ≤ j → g i = g' i) → serPow g t j = serPow g' t j := by
  induction t with
  | zero => intro j h; exact h j (by omega)
  | succ t ih =>
    intro j h
    cases j with
    | zero => rfl
    | succ j =>
      show serSum (fun k => serPow g t k * g (j - k)) (j + 1) = serSum (fun k => serPow g' t k * g' (j - k)) (j + 1)
      refine serSum_congr fun k hk => ?_
      by_cases hkt : k < t
      · rw [serPow_low g t k hkt, serPow_low g' t k hkt, Int.zero_mul, Int.zero_mul]
      · rw [ih k (fun i hi => h i (by omega)), h (j - k) (by omega)]

theorem serPart_first (s u : Nat → Int) {n : Nat} (hn : 0 < n) (j : Nat) : serPart s u n j = s 0 * u j + serSum (fun t => if t = 0 then 0 else s t * serPow u t j) n := by
  have e : ∀ t, t < n → s t * serPow u t j = (if t = 0 then s t * serPow u t j else 0) + (if t = 0 then 0 else s t * serPow u t j) := by
    intro t _
    by_cases h : t = 0
    · rw [if_pos h, if_pos h]; omega
    · rw [if_neg h, if_neg h]; omega
  show serSum _ n = _
  rw [serSum_congr e, serSum_add, serSum_one (fun t => s t * serPow u t j), if_pos hn]
  rfl

/-- What is found is inverse so far. -/
theorem serInv_right {s : Nat → Int} {n : Nat} (hs : serOk n s = true) : ∀ (k : Nat) (u : Nat → Int), serInv s n k = some u → k < n → ∀ j, j ≤ k → serPart s u n j = serX j := by
  obtain ⟨hn, hn8, hs0, _⟩ := serOk_iff.1 hs
  intro k
  induction k with
  | zero =>
    intro u hu _ j hj
    simp only [serInv, Option.some.injEq] at hu
    subst hu
    obtain rfl : j = 0 := by omega
    rw [serPart_x s n 0 (by omega), hs0]
    rfl
  | succ k ih =>
    intro u hu hk j hj
    rw [serInv] at hu
    cases h0 : serInv s n k with
    | none => rw [h0] at hu; cases hu
    | some u0 =>
      rw [h0] at hu
      cases hc : serComp s u0 n with
      | none => simp only [hc] at hu; cases hu
      | some c =>
        simp only [hc] at hu
        split at hu
        · simp only [Option.some.injEq] at hu
          subst hu
          have hcp : c = serPart s u0 n := by
            unfold serComp at hc
            split at hc
            · simp only [Option.some.injEq] at hc; exact hc.symm
            · cases hc
          obtain ⟨i1, i2⟩ := serInv_ok hn hn8 k u0 h0
          by_cases e : j = k + 1
          · subst e
            rw [serPart_first s _ (by omega)]
            have e2 : serSum (fun t => if t = 0 then 0 else s t * serPow (serPut u0 (k + 1) (-c (k + 1))) t (k + 1)) n = serSum (fun t => if t = 0 then 0 else s t * serPow u0 t (k + 1)) n := by
              refine serSum_congr fun t _ => ?_
              by_cases ht : t = 0
              · rw [if_pos ht, if_pos ht]
              · rw [if_neg ht, if_neg ht, serPow_dep t (k + 1) (fun i hi => by unfold serPut; rw [if_neg (by omega)])]
            have e3 := serPart_first s u0 (n := n) (by omega) (k + 1)
            rw [e2, hs0]
            rw [hs0, i2 (k + 1) (by omega)] at e3
            have e4 : serPut u0 (k + 1) (-c (k + 1)) (k + 1) = -c (k + 1) := by unfold serPut; rw [if_pos rfl]
            have e5 : serX (k + 1) = 0 := by unfold serX; rw [if_neg (by omega)]
            rw [e4, e5, hcp]
            omega
          · rw [serPart_congr (f' := s) (g' := u0) (fun _ _ => rfl) (fun t ht => by unfold serPut; rw [if_neg (by omega)])]
            exact ih u0 h0 (by omega) j (by omega)
        · cases hu

/-- Turning goes along composing. -/
def serSgn (j : Nat) : Int := if j % 2 = 1 then -1 else 1

theorem serTurn_sgn (s : Nat → Int) (j : Nat) : serTurn s j = serSgn j * s j := by
  unfold serTurn serSgn
  split <;> omega

theorem serSgn_add (a b : Nat) : serSgn (a + b) = serSgn a * serSgn b := by
  unfold serSgn
  by_cases h1 : a % 2 = 1 <;> by_cases h2 : b % 2 = 1
  · rw [if_pos h1, if_pos h2, if_neg (by omega)]; rfl
  · rw [if_pos h1, if_neg h2, if_pos (by omega)]; rfl
  · rw [if_neg h1, if_pos h2, if_pos (by omega)]; rfl
  · rw [if_neg h1, if_neg h2, if_neg (by omega)]; rfl

theorem serSgn_two (j : Nat) : serSgn j * serSgn j = 1 := by
  unfold serSgn
  split <;> rfl

theorem serTurn_pow (b : Nat → Int) (t : Nat) : ∀ j, serPow (serTurn b) t j = serSgn (t + j) * serPow b t j := by
  induction t with
  | zero => intro j; rw [Nat.zero_add]; exact serTurn_sgn b j
  | succ t ih =>
    intro j
    cases j with
    | zero => show (0 : Int) = _ * 0; omega
    | succ j =>
      show serSum (fun k => serPow (serTurn b) t k * serTurn b (j - k)) (j + 1) = serSgn (t + 1 + (j + 1)) * serSum (fun k => serPow b t k * b (j - k)) (j + 1)
      rw [← serSum_mul]
      refine serSum_congr fun k hk => ?_
      rw [ih, serTurn_sgn]
      have e : serSgn (t + 1 + (j + 1)) = serSgn (t + k) * serSgn (j - k) := by
        rw [← serSgn_add]
        unfold serSgn
        rw [show t + 1 + (j + 1) = t + k + (j - k) + 2 by omega, Nat.add_mod_right]
      rw [e, Int.mul_assoc, Int.mul_assoc, Int.mul_left_comm (serPow b t k)]

theorem serTurn_part (a b : Nat → Int) (n j : Nat) : serPart (serTurn a) (serTurn b) n j = serTurn (serPart a b n) j := by
  rw [serTurn_sgn]
  show serSum (fun t => serTurn a t * serPow (serTurn b) t j) n = serSgn j * serSum (fun t => a t * serPow b t j) n
  rw [← serSum_mul]
  refine serSum_congr fun t _ => ?_
  rw [serTurn_sgn, serTurn_pow, serSgn_add]
  have := serSgn_two t
  rw [show serSgn t * a t * (serSgn t * serSgn j * serPow b t j) = (serSgn t * serSgn t) * (serSgn j * (a t * serPow b t j)) by
    rw [Int.mul_assoc, Int.mul_assoc, Int.mul_assoc, Int.mul_left_comm (a t), Int.mul_left_comm (a t)], this, Int.one_mul]

theorem serTurn_turn (s : Nat → Int) (j : Nat) : serTurn (serTurn s) j = s j := by
  unfold serTurn
  split <;> omega

theorem serTurn_ok {n : Nat} {f : Nat → Int} (h : serOk n f = true) : serOk n (serTurn f) = true := by
  obtain ⟨h1, h2, h3, h4⟩ := serOk_iff.1 h
  refine serOk_iff.2 ⟨h1, h2, ?_, fun j hj => ?_⟩
  · show (if 0 % 2 = 1 then - f 0 else f 0) = 1
    rw [if_neg (by omega)]; exact h3
  · have := h4 j hj
    unfold serTurn
    split <;> omega

/-- If u is inverse behind f and w behind u, then w is f. -/
theorem ser_two_inverse {f u w : Nat → Int} {n : Nat} (hn : 0 < n) (h1 : ∀ j, j < n → serPart f u n j = serX j) (h2 : ∀ j, j < n → serPart u w n j = serX j) : ∀ j, j < n → w j = f j := by
  intro j hj
  have e := serPart_assoc f u w n j hj
  rw [serPart_congr (f' := serX) (g' := w) (fun t ht => h1 t ht) (fun _ _ => rfl), serX_part w n j hn, serPart_congr (f := f) (f' := f) (g' := serX) (fun _ _ => rfl) (fun t ht => h2 t (by omega)), serPart_x f n j hj] at e
  exact e

/-- An inverse is inverse on both sides. -/
theorem ser_left_inverse {f u : Nat → Int} {n : Nat} (hn : 0 < n) (hu : u 0 = 1) (h1 : ∀ j, j < n → serPart f u n j = serX j) : ∀ j, j < n → serPart u f n j = serX j := by
  refine ser_cancel hu fun j hj => ?_
  rw [serPart_assoc u f u n j hj, serPart_congr (f := u) (f' := u) (g' := serX) (fun _ _ => rfl) (fun t ht => h1 t (by omega)), serPart_x u n j hj, serX_part u n j hn]

end Go.Proofs.Ytnobpckmlhgeiaa
