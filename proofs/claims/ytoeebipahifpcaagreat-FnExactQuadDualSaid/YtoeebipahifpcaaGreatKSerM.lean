/- Merged out of: XSerM, XKSpanM. -/
import Derived.ProofKit
section
/- Series: products, powers, what is composed and inverses, as functions of the index; no walk. -/
namespace Go.Proofs.YtoeebipahifpcaaGreat

/-- The sum of the first n numbers. -/
def serSum (f : Nat → Int) : Nat → Int
  | 0 => 0
  | n + 1 => serSum f n + f n

/-- A list of n numbers, none beyond m up or down. -/
def serIn (n : Nat) (m : Int) (f : Nat → Int) : Bool := (List.range n).all fun j => decide (-m ≤ f j) && decide (f j ≤ m)

/-- A series. -/
def serOk (n : Nat) (f : Nat → Int) : Bool := decide (1 ≤ n) && decide (n ≤ 8) && decide (f 0 = 1) && serIn n 1000000 f

/-- The product without the first power of x. -/
def serMul (s o : Nat → Int) (i : Nat) : Int := serSum (fun k => s k * o (i - k)) (i + 1)

/-- The product. -/
def serNext (s o : Nat → Int) : Nat → Int
  | 0 => 0
  | i + 1 => serMul s o i

/-- The power m + 1. -/
def serPow (g : Nat → Int) : Nat → Nat → Int
  | 0 => g
  | m + 1 => serNext (serPow g m) g

/-- The sum of the first i powers of g. -/
def serPart (f g : Nat → Int) (i j : Nat) : Int := serSum (fun t => f t * serPow g t j) i

/-- Nothing on the way is too great. -/
def serWay (f g : Nat → Int) (n : Nat) : Bool := (List.range n).all fun i => serIn n 1000000000000 (serPow g i) && serIn n 1000000000000 (serPart f g (i + 1))

/-- f with g put for x, if nothing is too great. -/
def serComp (f g : Nat → Int) (n : Nat) : Option (Nat → Int) := if serWay f g n = true then some (serPart f g n) else none

/-- The series that has another number at one place. -/
def serPut (u : Nat → Int) (k : Nat) (v : Int) : Nat → Int := fun j => if j = k then v else u j

/-- x alone. -/
def serX : Nat → Int := fun j => if j = 0 then 1 else 0

/-- The inverse up to the number k. -/
def serInv (s : Nat → Int) (n : Nat) : Nat → Option (Nat → Int)
  | 0 => some serX
  | k + 1 => match serInv s n k with
    | none => none
    | some u => match serComp s u n with
      | none => none
      | some c => if -1000000 ≤ - c (k + 1) ∧ - c (k + 1) ≤ 1000000 then some (serPut u (k + 1) (- c (k + 1))) else none

/-- Turned. -/
def serTurn (s : Nat → Int) : Nat → Int := fun j => if j % 2 = 1 then - s j else s j

theorem serIn_iff {n : Nat} {m : Int} {f : Nat → Int} : serIn n m f = true ↔ ∀ j, j < n → -m ≤ f j ∧ f j ≤ m := by
  simp [serIn, List.all_eq_true]

theorem serIn_false {n : Nat} {m : Int} {f : Nat → Int} {j : Nat} (hj : j < n) (h : ¬ (-m ≤ f j ∧ f j ≤ m)) : serIn n m f = false := by
  cases e : serIn n m f with
  | false => rfl
  | true => exact absurd (serIn_iff.1 e j hj) h

theorem serIn_congr {n : Nat} {m : Int} {f g : Nat → Int} (h : ∀ j, j < n → f j = g j) : serIn n m f = serIn n m g := by
  rw [Bool.eq_iff_iff, serIn_iff, serIn_iff]
  constructor
  · intro a j hj; rw [← h j hj]; exact a j hj
  · intro a j hj; rw [h j hj]; exact a j hj

theorem serSum_congr {f g : Nat → Int} {n : Nat} (h : ∀ j, j < n → f j = g j) : serSum f n = serSum g n := by
  induction n with
  | zero => rfl
  | succ n ih => rw [serSum, serSum, ih (fun j hj => h j (by omega)), h n (by omega)]

theorem serSum_zero {f : Nat → Int} {n : Nat} (h : ∀ j, j < n → f j = 0) : serSum f n = 0 := by
  induction n with
  | zero => rfl
  | succ n ih => rw [serSum, ih (fun j hj => h j (by omega)), h n (by omega)]; rfl

theorem serSum_bound {f : Nat → Int} {n : Nat} {m : Int} (h : ∀ j, j < n → -m ≤ f j ∧ f j ≤ m) : -(n * m) ≤ serSum f n ∧ serSum f n ≤ n * m := by
  induction n with
  | zero => simp [serSum]
  | succ n ih =>
    have h1 := ih (fun j hj => h j (by omega))
    have h2 := h n (by omega)
    have e : ((n + 1 : Nat) : Int) * m = n * m + m := by rw [Int.natCast_succ, Int.add_mul, Int.one_mul]
    rw [e, serSum]
    omega

theorem ser_mul_bound {a b A B : Int} (ha : -A ≤ a ∧ a ≤ A) (hb : -B ≤ b ∧ b ≤ B) : -(A * B) ≤ a * b ∧ a * b ≤ A * B := by
  have hA : 0 ≤ A := by omega
  have hB : 0 ≤ B := by omega
  have h1 : (a * b).natAbs ≤ (A * B).natAbs := by
    rw [Int.natAbs_mul, Int.natAbs_mul]
    exact Nat.mul_le_mul (by omega) (by omega)
  have h2 : 0 ≤ A * B := Int.mul_nonneg hA hB
  omega

theorem serPow_low (g : Nat → Int) (m j : Nat) (h : j < m) : serPow g m j = 0 := by
  induction m generalizing j with
  | zero => omega
  | succ m ih =>
    cases j with
    | zero => rfl
    | succ j =>
      show serMul (serPow g m) g j = 0
      exact serSum_zero fun k hk => by rw [ih k (by omega), Int.zero_mul]

theorem serMul_congr {s s' o o' : Nat → Int} {i : Nat} (h1 : ∀ j, j ≤ i → s j = s' j) (h2 : ∀ j, j ≤ i → o j = o' j) : serMul s o i = serMul s' o' i :=
  serSum_congr fun k hk => by rw [h1 k (by omega), h2 (i - k) (by omega)]

theorem serNext_congr {s s' o o' : Nat → Int} {i : Nat} (h1 : ∀ j, j ≤ i → s j = s' j) (h2 : ∀ j, j ≤ i → o j = o' j) : serNext s o i = serNext s' o' i := by
  cases i with
  | zero => rfl
  | succ i => exact serMul_congr (fun j hj => h1 j (by omega)) (fun j hj => h2 j (by omega))

theorem serPow_congr {g g' : Nat → Int} {i : Nat} (h : ∀ j, j ≤ i → g j = g' j) (m : Nat) : ∀ j, j ≤ i → serPow g m j = serPow g' m j := by
  induction m with
  | zero => exact h
  | succ m ih => intro j hj; exact serNext_congr (fun t ht => ih t (by omega)) (fun t ht => h t (by omega))

theorem serPart_congr {f f' g g' : Nat → Int} {i j : Nat} (hf : ∀ t, t < i → f t = f' t) (hg : ∀ t, t ≤ j → g t = g' t) : serPart f g i j = serPart f' g' i j :=
  serSum_congr fun t ht => by rw [hf t ht, serPow_congr hg t j (Nat.le_refl _)]

/-- What is composed asks only for the first n numbers. -/
theorem serWay_congr {f f' g g' : Nat → Int} {n : Nat} (hf : ∀ t, t < n → f t = f' t) (hg : ∀ t, t < n → g t = g' t) : serWay f g n = serWay f' g' n := by
  rw [Bool.eq_iff_iff, serWay, serWay, List.all_eq_true, List.all_eq_true]
  have e : ∀ i, i < n → (serIn n 1000000000000 (serPow g i) && serIn n 1000000000000 (serPart f g (i + 1))) = (serIn n 1000000000000 (serPow g' i) && serIn n 1000000000000 (serPart f' g' (i + 1))) := fun i hi => by
    rw [serIn_congr (fun j hj => serPow_congr (i := j) (fun t ht => hg t (by omega)) i j (Nat.le_refl _)), serIn_congr (fun j hj => serPart_congr (fun t ht => hf t (by omega)) (fun t ht => hg t (by omega)))]
  constructor
  · intro h i hi; rw [← e i (by simpa using hi)]; exact h i hi
  · intro h i hi; rw [e i (by simpa using hi)]; exact h i hi

theorem serWay_iff {f g : Nat → Int} {n : Nat} : serWay f g n = true ↔ ∀ i, i < n → serIn n 1000000000000 (serPow g i) = true ∧ serIn n 1000000000000 (serPart f g (i + 1)) = true := by
  simp [serWay, List.all_eq_true]

theorem serWay_pow {f g : Nat → Int} {n i : Nat} (hi : i < n) (h : serIn n 1000000000000 (serPow g i) = false) : serWay f g n = false := by
  cases e : serWay f g n with
  | false => rfl
  | true => rw [(serWay_iff.1 e i hi).1] at h; exact absurd h (by simp)

theorem serWay_part {f g : Nat → Int} {n i : Nat} (hi : i < n) (h : serIn n 1000000000000 (serPart f g (i + 1)) = false) : serWay f g n = false := by
  cases e : serWay f g n with
  | false => rfl
  | true => rw [(serWay_iff.1 e i hi).2] at h; exact absurd h (by simp)

/-- The power behind the last one has no number left. -/
theorem serPow_last (g : Nat → Int) (n : Nat) : serIn n 1000000000000 (serPow g n) = true :=
  serIn_iff.2 fun j hj => by rw [serPow_low g n j hj]; omega

theorem serOk_iff {n : Nat} {f : Nat → Int} : serOk n f = true ↔ 1 ≤ n ∧ n ≤ 8 ∧ f 0 = 1 ∧ ∀ j, j < n → -1000000 ≤ f j ∧ f j ≤ 1000000 := by
  simp [serOk, serIn_iff, and_assoc]

theorem serOk_congr {n : Nat} {f g : Nat → Int} (h : ∀ j, j < n → f j = g j) : serOk n f = serOk n g := by
  rw [Bool.eq_iff_iff, serOk_iff, serOk_iff]
  constructor
  · rintro ⟨a, b, c, d⟩; exact ⟨a, b, by rw [← h 0 (by omega)]; exact c, fun j hj => by rw [← h j hj]; exact d j hj⟩
  · rintro ⟨a, b, c, d⟩; exact ⟨a, b, by rw [h 0 (by omega)]; exact c, fun j hj => by rw [h j hj]; exact d j hj⟩

theorem serX_ok {n : Nat} (h1 : 1 ≤ n) (h2 : n ≤ 8) : serOk n serX = true :=
  serOk_iff.2 ⟨h1, h2, rfl, fun j _ => by unfold serX; split <;> omega⟩

/-- What is found of the inverse is a series, with 0 behind. -/
theorem serInv_ok {s : Nat → Int} {n : Nat} (h1 : 1 ≤ n) (h2 : n ≤ 8) : ∀ (k : Nat) (u : Nat → Int), serInv s n k = some u → serOk n u = true ∧ ∀ j, k < j → u j = 0 := by
  intro k
  induction k with
  | zero =>
    intro u hu
    simp only [serInv, Option.some.injEq] at hu
    subst hu
    exact ⟨serX_ok h1 h2, fun j hj => by unfold serX; rw [if_neg (by omega)]⟩
  | succ k ih =>
    intro u hu
    rw [serInv] at hu
    cases hk : serInv s n k with
    | none => rw [hk] at hu; cases hu
    | some u0 =>
      rw [hk] at hu
      obtain ⟨i1, i2⟩ := ih u0 hk
      cases hc : serComp s u0 n with
      | none => simp only [hc] at hu; cases hu
      | some c =>
        simp only [hc] at hu
        split at hu
        · rename_i hb
          simp only [Option.some.injEq] at hu
          subst hu
          have i3 := serOk_iff.1 i1
          refine ⟨serOk_iff.2 ⟨h1, h2, ?_, fun j hj => ?_⟩, fun j hj => ?_⟩
          · unfold serPut; rw [if_neg (by omega)]; exact i3.2.2.1
          · unfold serPut; split
            · exact hb
            · exact i3.2.2.2 j hj
          · unfold serPut; rw [if_neg (by omega)]; exact i2 j (by omega)
        · cases hu

end Go.Proofs.YtoeebipahifpcaaGreat
end
section
/- Merged out of: XSerX, XSpanM. -/
section
/- Series: products go both ways, composing goes in any brackets, inverses are inverse on both sides. -/
namespace Go.Proofs.YtoeebipahifpcaaGreat

theorem serSum_add (f g : Nat → Int) (n : Nat) : serSum (fun i => f i + g i) n = serSum f n + serSum g n := by
  induction n with
  | zero => rfl
  | succ n ih => simp only [serSum]; rw [ih]; omega

theorem serSum_mul (c : Int) (f : Nat → Int) (n : Nat) : serSum (fun i => c * f i) n = c * serSum f n := by
  induction n with
  | zero => simp [serSum]
  | succ n ih => simp only [serSum]; rw [ih, Int.mul_add]

theorem serSum_mulr (c : Int) (f : Nat → Int) (n : Nat) : serSum (fun i => f i * c) n = serSum f n * c := by
  induction n with
  | zero => simp [serSum]
  | succ n ih => simp only [serSum]; rw [ih, Int.add_mul]

theorem serSum_swap (F : Nat → Nat → Int) (n m : Nat) : serSum (fun i => serSum (fun j => F i j) m) n = serSum (fun j => serSum (fun i => F i j) n) m := by
  induction n with
  | zero => simp only [serSum]; exact (serSum_zero fun _ _ => rfl).symm
  | succ n ih => simp only [serSum]; rw [ih, ← serSum_add]

theorem serSum_more {f : Nat → Int} {n m : Nat} (h : n ≤ m) (h0 : ∀ j, n ≤ j → j < m → f j = 0) : serSum f m = serSum f n := by
  induction m with
  | zero => obtain rfl : n = 0 := by omega
            rfl
  | succ m ih =>
    by_cases e : n = m + 1
    · rw [e]
    · rw [serSum, ih (by omega) (fun j h1 h2 => h0 j h1 (by omega)), h0 m (by omega) (by omega), Int.add_zero]

theorem serSum_one (F : Nat → Int) (k M : Nat) : serSum (fun i => if i = k then F i else 0) M = if k < M then F k else 0 := by
  induction M with
  | zero => simp [serSum]
  | succ M ih =>
    rw [serSum, ih]
    by_cases e : M = k
    · subst e
      rw [if_neg (by omega), if_pos rfl, if_pos (by omega)]; omega
    · rw [if_neg e]
      by_cases h : k < M
      · rw [if_pos h, if_pos (by omega)]; omega
      · rw [if_neg h, if_neg (by omega)]; rfl

/-- The product by pairs of powers. -/
theorem serNext_pairs (a b : Nat → Int) {j M : Nat} (h : j ≤ M) : serNext a b j = serSum (fun t => serSum (fun u => if t + u + 1 = j then a t * b u else 0) M) M := by
  cases j with
  | zero =>
    symm
    exact serSum_zero fun t _ => serSum_zero fun u _ => by rw [if_neg (by omega)]
  | succ i =>
    show serSum (fun k => a k * b (i - k)) (i + 1) = _
    have e : ∀ t, t < M → serSum (fun u => if t + u + 1 = i + 1 then a t * b u else 0) M = if t < i + 1 then a t * b (i - t) else 0 := by
      intro t ht
      by_cases hti : t ≤ i
      · rw [if_pos (by omega)]
        rw [serSum_congr (g := fun u => if u = i - t then a t * b u else 0) (fun u _ => by
          by_cases e : u = i - t
          · rw [if_pos e, if_pos (by omega)]
          · rw [if_neg e, if_neg (by omega)])]
        rw [serSum_one (fun u => a t * b u), if_pos (by omega)]
      · rw [if_neg (by omega)]
        exact serSum_zero fun u _ => by rw [if_neg (by omega)]
    rw [serSum_congr e, serSum_more (n := i + 1) h (fun j h1 _ => by rw [if_neg (by omega)])]
    exact serSum_congr fun j hj => by rw [if_pos hj]

/-- Products go both ways. -/
theorem serNext_comm (a b : Nat → Int) (j : Nat) : serNext a b j = serNext b a j := by
  rw [serNext_pairs a b (Nat.le_refl j), serNext_pairs b a (Nat.le_refl j), serSum_swap]
  exact serSum_congr fun t _ => serSum_congr fun u _ => by
    by_cases e : u + t + 1 = j
    · rw [if_pos e, if_pos (by omega), Int.mul_comm]
    · rw [if_neg e, if_neg (by omega)]

theorem serMul_comm (a b : Nat → Int) (j : Nat) : serMul a b j = serMul b a j := serNext_comm a b (j + 1)

theorem ite_mul_l (p : Prop) [Decidable p] (x c : Int) : (if p then x else 0) * c = if p then x * c else 0 := by
  split
  · rfl
  · exact Int.zero_mul c
theorem ite_mul_r (p : Prop) [Decidable p] (x c : Int) : c * (if p then x else 0) = if p then c * x else 0 := by
  split
  · rfl
  · exact Int.mul_zero c

/-- Products of three go in any brackets. -/
theorem serNext_assoc (a b c : Nat → Int) (j : Nat) : serNext a (serNext b c) j = serNext (serNext a b) c j := by
  have L : serNext a (serNext b c) j = serSum (fun t => serSum (fun u => serSum (fun v => if t + u + v + 2 = j then a t * b u * c v else 0) j) j) j := by
    rw [serNext_pairs a (serNext b c) (Nat.le_refl j)]
    refine serSum_congr fun t ht => ?_
    have e1 : serSum (fun s => if t + s + 1 = j then a t * serNext b c s else 0) j = serSum (fun s => serSum (fun u => serSum (fun v => if s = u + v + 1 then (if t + s + 1 = j then a t * (b u * c v) else 0) else 0) j) j) j := by
      refine serSum_congr fun s hs => ?_
      rw [serNext_pairs b c (Nat.le_of_lt hs)]
      by_cases e : t + s + 1 = j
      · rw [if_pos e, ← serSum_mul]
        refine serSum_congr fun u _ => ?_
        rw [← serSum_mul]
        refine serSum_congr fun v _ => ?_
        rw [ite_mul_r]
        by_cases e2 : u + v + 1 = s
        · rw [if_pos e2, if_pos e2.symm, if_pos e]
        · rw [if_neg e2, if_neg (fun h => e2 h.symm)]
      · rw [if_neg e]
        symm
        exact serSum_zero fun u _ => serSum_zero fun v _ => by
          rw [if_neg e]
          split <;> rfl
    rw [e1, serSum_swap]
    refine serSum_congr fun u hu => ?_
    rw [serSum_swap]
    refine serSum_congr fun v hv => ?_
    rw [serSum_one (fun s => if t + s + 1 = j then a t * (b u * c v) else 0)]
    by_cases e : t + u + v + 2 = j
    · rw [if_pos e, if_pos (by omega), if_pos (by omega), Int.mul_assoc]
    · rw [if_neg e]
      split
      · rw [if_neg (by omega)]
      · rfl
  have R : serNext (serNext a b) c j = serSum (fun t => serSum (fun u => serSum (fun v => if t + u + v + 2 = j then a t * b u * c v else 0) j) j) j := by
    rw [serNext_pairs (serNext a b) c (Nat.le_refl j)]
    have e1 : ∀ s, s < j → serSum (fun v => if s + v + 1 = j then serNext a b s * c v else 0) j = serSum (fun t => serSum (fun u => serSum (fun v => if s = t + u + 1 then (if s + v + 1 = j then a t * b u * c v else 0) else 0) j) j) j := by
      intro s hs
      rw [serNext_pairs a b (Nat.le_of_lt hs)]
      have e2 : ∀ v, v < j → (if s + v + 1 = j then serSum (fun t => serSum (fun u => if t + u + 1 = s then a t * b u else 0) j) j * c v else 0) = serSum (fun t => serSum (fun u => if s = t + u + 1 then (if s + v + 1 = j then a t * b u * c v else 0) else 0) j) j := by
        intro v _
        by_cases e : s + v + 1 = j
        · rw [if_pos e, ← serSum_mulr]
          refine serSum_congr fun t _ => ?_
          rw [← serSum_mulr]
          refine serSum_congr fun u _ => ?_
          rw [ite_mul_l]
          by_cases e2 : t + u + 1 = s
          · rw [if_pos e2, if_pos e2.symm, if_pos e]
          · rw [if_neg e2, if_neg (fun h => e2 h.symm)]
        · rw [if_neg e]
          symm
          exact serSum_zero fun t _ => serSum_zero fun u _ => by
            rw [if_neg e]
            split <;> rfl
      rw [serSum_congr e2, serSum_swap]
      refine serSum_congr fun t _ => ?_
      rw [serSum_swap]
    rw [serSum_congr e1, serSum_swap]
    refine serSum_congr fun t ht => ?_
    rw [serSum_swap]
    refine serSum_congr fun u hu => ?_
    rw [serSum_swap]
    refine serSum_congr fun v hv => ?_
    rw [serSum_one (fun s => if s + v + 1 = j then a t * b u * c v else 0)]
    by_cases e : t + u + v + 2 = j
    · rw [if_pos e, if_pos (by omega), if_pos (by omega)]
    · rw [if_neg e]
      split
      · rw [if_neg (by omega)]
      · rfl
  rw [L, R]

/-- Powers add up. -/
theorem serPow_add (h : Nat → Int) (t u : Nat) : ∀ j, serNext (serPow h t) (serPow h u) j = serPow h (t + u + 1) j := by
  induction u with
  | zero => intro j; rfl
  | succ u ih =>
    intro j
    show serNext (serPow h t) (serNext (serPow h u) h) j = serNext (serPow h (t + u + 1)) h j
    rw [serNext_assoc]
    exact serNext_congr (fun k _ => ih k) (fun _ _ => rfl)

/-- Composing goes along products. -/
theorem serPart_next (a b h : Nat → Int) (n j : Nat) (hj : j < n) : serPart (serNext a b) h n j = serNext (serPart a h n) (serPart b h n) j := by
  have L : serPart (serNext a b) h n j = serSum (fun t => serSum (fun u => a t * b u * serPow h (t + u + 1) j) n) n := by
    show serSum (fun i => serNext a b i * serPow h i j) n = _
    have e1 : ∀ i, i < n → serNext a b i * serPow h i j = serSum (fun t => serSum (fun u => if i = t + u + 1 then a t * b u * serPow h i j else 0) n) n := by
      intro i hi
      rw [serNext_pairs a b (Nat.le_of_lt hi), ← serSum_mulr]
      refine serSum_congr fun t _ => ?_
      rw [← serSum_mulr]
      refine serSum_congr fun u _ => ?_
      rw [ite_mul_l]
      by_cases e : t + u + 1 = i
      · rw [if_pos e, if_pos e.symm]
      · rw [if_neg e, if_neg (fun h => e h.symm)]
    rw [serSum_congr e1, serSum_swap]
    refine serSum_congr fun t _ => ?_
    rw [serSum_swap]
    refine serSum_congr fun u _ => ?_
    rw [serSum_one (fun i => a t * b u * serPow h i j)]
    split
    · rfl
    · rw [serPow_low h _ j (by omega), Int.mul_zero]
  have R : serNext (serPart a h n) (serPart b h n) j = serSum (fun t => serSum (fun u => a t * b u * serNext (serPow h t) (serPow h u) j) n) n := by
    rw [serNext_pairs _ _ (Nat.le_of_lt hj)]
    have e1 : ∀ x, x < n → ∀ y, y < n → (if x + y + 1 = j then serPart a h n x * serPart b h n y else 0) = serSum (fun t => serSum (fun u => a t * b u * (if x + y + 1 = j then serPow h t x * serPow h u y else 0)) n) n := by
      intro x _ y _
      by_cases e : x + y + 1 = j
      · rw [if_pos e]
        show serSum (fun t => a t * serPow h t x) n * serSum (fun u => b u * serPow h u y) n = _
        rw [← serSum_mulr]
        refine serSum_congr fun t _ => ?_
        rw [← serSum_mul]
        refine serSum_congr fun u _ => ?_
        rw [if_pos e]
        rw [Int.mul_assoc, Int.mul_assoc, Int.mul_left_comm (serPow h t x)]
      · rw [if_neg e]
        symm
        exact serSum_zero fun t _ => serSum_zero fun u _ => by rw [if_neg e, Int.mul_zero]
    rw [serSum_congr (fun x hx => serSum_congr (fun y hy => e1 x hx y hy))]
    have e2 : ∀ x, x < n → serSum (fun y => serSum (fun t => serSum (fun u => a t * b u * (if x + y + 1 = j then serPow h t x * serPow h u y else 0)) n) n) n = serSum (fun t => serSum (fun u => serSum (fun y => a t * b u * (if x + y + 1 = j then serPow h t x * serPow h u y else 0)) n) n) n := by
      intro x _
      rw [serSum_swap]
      refine serSum_congr fun t _ => ?_
      rw [serSum_swap]
    rw [serSum_congr e2, serSum_swap]
    refine serSum_congr fun t _ => ?_
    rw [serSum_swap]
    refine serSum_congr fun u _ => ?_
    rw [serNext_pairs (serPow h t) (serPow h u) (Nat.le_of_lt hj), ← serSum_mul]
    refine serSum_congr fun x _ => ?_
    rw [← serSum_mul]
  rw [L, R]
  exact serSum_congr fun t _ => serSum_congr fun u _ => by rw [serPow_add]

/-- .. and along powers. -/
theorem serPart_pow (g h : Nat → Int) (n s : Nat) : ∀ j, j < n → serPart (serPow g s) h n j = serPow (serPart g h n) s j := by
  induction s with
  | zero => intro j _; rfl
  | succ s ih =>
    intro j hj
    show serPart (serNext (serPow g s) g) h n j = serNext (serPow (serPart g h n) s) (serPart g h n) j
    rw [serPart_next _ _ _ _ _ hj]
    exact serNext_congr (fun k hk => ih k (by omega)) (fun _ _ => rfl)

/-- Composing goes in any brackets. -/
theorem serPart_assoc (f g h : Nat → Int) (n j : Nat) (hj : j < n) : serPart (serPart f g n) h n j = serPart f (serPart g h n) n j := by
  show serSum (fun t => serSum (fun s => f s * serPow g s t) n * serPow h t j) n = serSum (fun s => f s * serPow (serPart g h n) s j) n
  rw [serSum_congr (g := fun t => serSum (fun s => f s * serPow g s t * serPow h t j) n) (fun t _ => by rw [serSum_mulr]), serSum_swap]
  refine serSum_congr fun s _ => ?_
  rw [← serPart_pow g h n s j hj]
  show _ = f s * serSum (fun t => serPow g s t * serPow h t j) n
  rw [← serSum_mul]
  exact serSum_congr fun t _ => by rw [Int.mul_assoc]

theorem serPow_x (m : Nat) : ∀ j, serPow serX m j = if j = m then 1 else 0 := by
  induction m with
  | zero => intro j; rfl
  | succ m ih =>
    intro j
    cases j with
    | zero => rw [if_neg (by omega)]; rfl
    | succ i =>
      show serSum (fun k => serPow serX m k * serX (i - k)) (i + 1) = _
      rw [serSum_congr (g := fun k => if k = m then serX (i - k) else 0) (fun k _ => by rw [ih, ite_mul_l, Int.one_mul]), serSum_one (fun k => serX (i - k))]
      unfold serX
      by_cases e : i = m
      · subst e; rw [if_pos (by omega), if_pos (by omega), if_pos rfl]
      · by_cases h : m < i + 1
        · rw [if_pos h, if_neg (by omega), if_neg (by omega)]
        · rw [if_neg h, if_neg (by omega)]

/-- x put for x. -/
theorem serPart_x (a : Nat → Int) (n j : Nat) (hj : j < n) : serPart a serX n j = a j := by
  show serSum (fun t => a t * serPow serX t j) n = a j
  rw [serSum_congr (g := fun t => if t = j then a t else 0) (fun t _ => by
    rw [serPow_x, ite_mul_r, Int.mul_one]
    by_cases e : j = t
    · rw [if_pos e, if_pos e.symm]
    · rw [if_neg e, if_neg (fun h => e h.symm)]), serSum_one a, if_pos hj]

theorem serX_part (a : Nat → Int) (n j : Nat) (hn : 0 < n) : serPart serX a n j = a j := by
  show serSum (fun t => serX t * serPow a t j) n = a j
  rw [serSum_congr (g := fun t => if t = 0 then serPow a t j else 0) (fun t _ => by unfold serX; rw [ite_mul_l, Int.one_mul]), serSum_one (fun t => serPow a t j), if_pos hn]
  rfl

theorem serPow_diag {u : Nat → Int} (h : u 0 = 1) (t : Nat) : serPow u t t = 1 := by
  induction t with
  | zero => exact h
  | succ t ih =>
    show serSum (fun k => serPow u t k * u (t - k)) (t + 1) = 1
    rw [serSum, serSum_zero (fun k hk => by rw [serPow_low u t k hk, Int.zero_mul]), ih, Nat.sub_self, h]
    rfl

theorem serPart_cut (a u : Nat → Int) {n j : Nat} (hj : j < n) : serPart a u n j = serPart a u j j + a j * serPow u j j := by
  show serSum _ n = _
  rw [serSum_more (n := j + 1) (by omega) (fun t h1 _ => by rw [serPow_low u t j (by omega), Int.mul_zero])]
  rfl

/-- What is put can be taken off. -/
theorem ser_cancel {a b u : Nat → Int} {n : Nat} (hu : u 0 = 1) (h : ∀ j, j < n → serPart a u n j = serPart b u n j) : ∀ j, j < n → a j = b j := by
  intro j
  induction j using Nat.strongRecOn with
  | ind j ih =>
    intro hj
    have h1 := h j hj
    rw [serPart_cut a u hj, serPart_cut b u hj, serPow_diag hu] at h1
    have h2 : serPart a u j j = serPart b u j j := serPart_congr (fun t ht => ih t ht (by omega)) (fun _ _ => rfl)
    omega

/-- A power asks only for numbers so far. -/
theorem serPow_dep {g g' : Nat → Int} (t : Nat) : ∀ j, (∀ i, i + t ≤ j → g i = g' i) → serPow g t j = serPow g' t j := by
  induction t with
  | zero => intro j h; exact h j (by omega)
  | succ t ih =>
    intro j h
    cases j with
    | zero => rfl
    | succ j =>
      show serSum (fun k => serPow g t k * g (j - k)) (j + 1) = serSum (fun k => serPow g' t k * g' (j - k)) (j + 1)
      refine serSum_congr fun k hk => ?_
      by_cases hkt : k < t
      · rw [serPow_low g t k hkt, serPow_low g' t k hkt, Int.zero_mul, Int.zero_mul]
      · rw [ih k (fun i hi => h i (by omega)), h (j - k) (by omega)]

theorem serPart_first (s u : Nat → Int) {n : Nat} (hn : 0 < n) (j : Nat) : serPart s u n j = s 0 * u j + serSum (fun t => if t = 0 then 0 else s t * serPow u t j) n := by
  have e : ∀ t, t < n → s t * serPow u t j = (if t = 0 then s t * serPow u t j else 0) + (if t = 0 then 0 else s t * serPow u t j) := by
    intro t _
    by_cases h : t = 0
    · rw [if_pos h, if_pos h]; omega
    · rw [if_neg h, if_neg h]; omega
  show serSum _ n = _
  rw [serSum_congr e, serSum_add, serSum_one (fun t => s t * serPow u t j), if_pos hn]
  rfl

/-- What is found is inverse so far. -/
theorem serInv_right {s : Nat → Int} {n : Nat} (hs : serOk n s = true) : ∀ (k : Nat) (u : Nat → Int), serInv s n k = some u → k < n → ∀ j, j ≤ k → serPart s u n j = serX j := by
  obtain ⟨hn, hn8, hs0, _⟩ := serOk_iff.1 hs
  intro k
  induction k with
  | zero =>
    intro u hu _ j hj
    simp only [serInv, Option.some.injEq] at hu
    subst hu
    obtain rfl : j = 0 := by omega
    rw [serPart_x s n 0 (by omega), hs0]
    rfl
  | succ k ih =>
    intro u hu hk j hj
    rw [serInv] at hu
    cases h0 : serInv s n k with
    | none => rw [h0] at hu; cases hu
    | some u0 =>
      rw [h0] at hu
      cases hc : serComp s u0 n with
      | none => simp only [hc] at hu; cases hu
      | some c =>
        simp only [hc] at hu
        split at hu
        · simp only [Option.some.injEq] at hu
          subst hu
          have hcp : c = serPart s u0 n := by
            unfold serComp at hc
            split at hc
            · simp only [Option.some.injEq] at hc; exact hc.symm
            · cases hc
          obtain ⟨i1, i2⟩ := serInv_ok hn hn8 k u0 h0
          by_cases e : j = k + 1
          · subst e
            rw [serPart_first s _ (by omega)]
            have e2 : serSum (fun t => if t = 0 then 0 else s t * serPow (serPut u0 (k + 1) (-c (k + 1))) t (k + 1)) n = serSum (fun t => if t = 0 then 0 else s t * serPow u0 t (k + 1)) n := by
              refine serSum_congr fun t _ => ?_
              by_cases ht : t = 0
              · rw [if_pos ht, if_pos ht]
              · rw [if_neg ht, if_neg ht, serPow_dep t (k + 1) (fun i hi => by unfold serPut; rw [if_neg (by omega)])]
            have e3 := serPart_first s u0 (n := n) (by omega) (k + 1)
            rw [e2, hs0]
            rw [hs0, i2 (k + 1) (by omega)] at e3
            have e4 : serPut u0 (k + 1) (-c (k + 1)) (k + 1) = -c (k + 1) := by unfold serPut; rw [if_pos rfl]
            have e5 : serX (k + 1) = 0 := by unfold serX; rw [if_neg (by omega)]
            rw [e4, e5, hcp]
            omega
          · rw [serPart_congr (f' := s) (g' := u0) (fun _ _ => rfl) (fun t ht => by unfold serPut; rw [if_neg (by omega)])]
            exact ih u0 h0 (by omega) j (by omega)
        · cases hu

/-- Turning goes along composing. -/
def serSgn (j : Nat) : Int := if j % 2 = 1 then -1 else 1

theorem serTurn_sgn (s : Nat → Int) (j : Nat) : serTurn s j = serSgn j * s j := by
  unfold serTurn serSgn
  split <;> omega

theorem serSgn_add (a b : Nat) : serSgn (a + b) = serSgn a * serSgn b := by
  unfold serSgn
  by_cases h1 : a % 2 = 1 <;> by_cases h2 : b % 2 = 1
  · rw [if_pos h1, if_pos h2, if_neg (by omega)]; rfl
  · rw [if_pos h1, if_neg h2, if_pos (by omega)]; rfl
  · rw [if_neg h1, if_pos h2, if_pos (by omega)]; rfl
  · rw [if_neg h1, if_neg h2, if_neg (by omega)]; rfl

theorem serSgn_two (j : Nat) : serSgn j * serSgn j = 1 := by
  unfold serSgn
  split <;> rfl

theorem serTurn_pow (b : Nat → Int) (t : Nat) : ∀ j, serPow (serTurn b) t j = serSgn (t + j) * serPow b t j := by
  induction t with
  | zero => intro j; rw [Nat.zero_add]; exact serTurn_sgn b j
  | succ t ih =>
    intro j
    cases j with
    | zero => show (0 : Int) = _ * 0; omega
    | succ j =>
      show serSum (fun k => serPow (serTurn b) t k * serTurn b (j - k)) (j + 1) = serSgn (t + 1 + (j + 1)) * serSum (fun k => serPow b t k * b (j - k)) (j + 1)
      rw [← serSum_mul]
      refine serSum_congr fun k hk => ?_
      rw [ih, serTurn_sgn]
      have e : serSgn (t + 1 + (j + 1)) = serSgn (t + k) * serSgn (j - k) := by
        rw [← serSgn_add]
        unfold serSgn
        rw [show t + 1 + (j + 1) = t + k + (j - k) + 2 by omega, Nat.add_mod_right]
      rw [e, Int.mul_assoc, Int.mul_assoc, Int.mul_left_comm (serPow b t k)]

theorem serTurn_part (a b : Nat → Int) (n j : Nat) : serPart (serTurn a) (serTurn b) n j = serTurn (serPart a b n) j := by
  rw [serTurn_sgn]
  show serSum (fun t => serTurn a t * serPow (serTurn b) t j) n = serSgn j * serSum (fun t => a t * serPow b t j) n
  rw [← serSum_mul]
  refine serSum_congr fun t _ => ?_
  rw [serTurn_sgn, serTurn_pow, serSgn_add]
  have := serSgn_two t
  rw [show serSgn t * a t * (serSgn t * serSgn j * serPow b t j) = (serSgn t * serSgn t) * (serSgn j * (a t * serPow b t j)) by
    rw [Int.mul_assoc, Int.mul_assoc, Int.mul_assoc, Int.mul_left_comm (a t), Int.mul_left_comm (a t)], this, Int.one_mul]

theorem serTurn_turn (s : Nat → Int) (j : Nat) : serTurn (serTurn s) j = s j := by
  unfold serTurn
  split <;> omega

theorem serTurn_ok {n : Nat} {f : Nat → Int} (h : serOk n f = true) : serOk n (serTurn f) = true := by
  obtain ⟨h1, h2, h3, h4⟩ := serOk_iff.1 h
  refine serOk_iff.2 ⟨h1, h2, ?_, fun j hj => ?_⟩
  · show (if 0 % 2 = 1 then - f 0 else f 0) = 1
    rw [if_neg (by omega)]; exact h3
  · have := h4 j hj
    unfold serTurn
    split <;> omega

/-- If u is inverse behind f and w behind u, then w is f. -/
theorem ser_two_inverse {f u w : Nat → Int} {n : Nat} (hn : 0 < n) (h1 : ∀ j, j < n → serPart f u n j = serX j) (h2 : ∀ j, j < n → serPart u w n j = serX j) : ∀ j, j < n → w j = f j := by
  intro j hj
  have e := serPart_assoc f u w n j hj
  rw [serPart_congr (f' := serX) (g' := w) (fun t ht => h1 t ht) (fun _ _ => rfl), serX_part w n j hn, serPart_congr (f := f) (f' := f) (g' := serX) (fun _ _ => rfl) (fun t ht => h2 t (by omega)), serPart_x f n j hj] at e
  exact e

/-- An inverse is inverse on both sides. -/
theorem ser_left_inverse {f u : Nat → Int} {n : Nat} (hn : 0 < n) (hu : u 0 = 1) (h1 : ∀ j, j < n → serPart f u n j = serX j) : ∀ j, j < n → serPart u f n j = serX j := by
  refine ser_cancel hu fun j hj => ?_
  rw [serPart_assoc u f u n j hj, serPart_congr (f := u) (f' := u) (g' := serX) (fun _ _ => rfl) (fun t ht => h1 t (by omega)), serPart_x u n j hj, serX_part u n j hn]

end Go.Proofs.YtoeebipahifpcaaGreat
end
section
/- Spans of rows modulo 101 and their bases: a span has one base. No walk. -/
namespace Go.Proofs.YtoeebipahifpcaaGreat

/-- What rows add up to, column by column below n. -/
inductive Sp (n : Nat) (R : (Nat → Int) → Prop) : (Nat → Int) → Prop
  | zero {v : Nat → Int} (h : ∀ j, j < n → v j % 101 = 0) : Sp n R v
  | step {u v r : Nat → Int} {c : Int} (hu : Sp n R u) (hr : R r) (h : ∀ j, j < n → (v j - (u j + c * r j)) % 101 = 0) : Sp n R v

theorem mulMod {a b : Int} (h : (a - b) % 101 = 0) (c : Int) : (c * a - c * b) % 101 = 0 := by
  rw [← Int.mul_sub, Int.mul_emod, h]; simp

theorem mulModR {a b : Int} (h : (a - b) % 101 = 0) (c : Int) : (a * c - b * c) % 101 = 0 := by
  rw [← Int.sub_mul, Int.mul_emod, h]; simp

theorem Sp.congr {n : Nat} {R : (Nat → Int) → Prop} {u v : Nat → Int} (hu : Sp n R u) (h : ∀ j, j < n → (v j - u j) % 101 = 0) : Sp n R v := by
  cases hu with
  | zero h0 => exact .zero fun j hj => by have := h j hj; have := h0 j hj; omega
  | @step u0 v0 r c hu hr hs => exact .step (c := c) hu hr fun j hj => by have := h j hj; have := hs j hj; omega

theorem Sp.of {n : Nat} {R : (Nat → Int) → Prop} {r : Nat → Int} (hr : R r) : Sp n R r :=
  .step (u := fun _ => 0) (c := 1) (.zero fun _ _ => rfl) hr fun j _ => by show (r j - (0 + 1 * r j)) % 101 = 0; omega

theorem Sp.add {n : Nat} {R : (Nat → Int) → Prop} {u v : Nat → Int} (hu : Sp n R u) (hv : Sp n R v) : Sp n R (fun j => u j + v j) := by
  induction hv with
  | zero h => exact hu.congr fun j hj => by have := h j hj; omega
  | @step u0 v0 r c _ hr h ih => exact .step (c := c) ih hr fun j hj => by have := h j hj; omega

theorem Sp.smul {n : Nat} {R : (Nat → Int) → Prop} {v : Nat → Int} (c : Int) (hv : Sp n R v) : Sp n R (fun j => c * v j) := by
  induction hv with
  | zero h => exact .zero fun j hj => by rw [Int.mul_emod, h j hj]; simp
  | @step u v r d _ hr h ih =>
    refine .step (c := c * d) ih hr fun j hj => ?_
    have := mulMod (h j hj) c
    rw [Int.mul_add, ← Int.mul_assoc] at this
    exact this

theorem Sp.sub {n : Nat} {R : (Nat → Int) → Prop} {u v : Nat → Int} (hu : Sp n R u) (c : Int) (hv : Sp n R v) : Sp n R (fun j => u j - c * v j) :=
  (hu.add (hv.smul (-c))).congr fun j _ => by rw [Int.neg_mul]; omega

theorem Sp.mono {n : Nat} {R R' : (Nat → Int) → Prop} (h : ∀ r, R r → Sp n R' r) {v : Nat → Int} (hv : Sp n R v) : Sp n R' v := by
  induction hv with
  | zero h0 => exact .zero h0
  | @step u v r c _ hr hs ih => exact (ih.add ((h r hr).smul c)).congr hs

/-- A base: the row at i begins with 1 at i and is 0 at the other heads, or is 0. -/
structure Bs (n : Nat) (s : Nat → Nat → Int) : Prop where
  rng : ∀ i j, 0 ≤ s i j ∧ s i j ≤ 100
  row : ∀ i, (∀ j, s i j = 0) ∨ (i < n ∧ s i i = 1 ∧ (∀ j, j < i → s i j = 0) ∧ ∀ k, k ≠ i → s k i = 0)

/-- The rows of a base. -/
def BsR (n : Nat) (s : Nat → Nat → Int) (r : Nat → Int) : Prop := ∃ i, i < n ∧ r = s i

theorem Bs.none (n : Nat) : Bs n (fun _ _ => 0) := ⟨fun _ _ => by omega, fun _ => .inl fun _ => rfl⟩

/-- A row of the base by its own numbers. -/
theorem Bs.self {n : Nat} {s : Nat → Nat → Int} (h : Bs n s) {k : Nat} (hk : k < n) (j : Nat) : serSum (fun i => s k i * s i j) n = s k j := by
  have e : ∀ i, i < n → s k i * s i j = if i = k then s k k * s k j else 0 := by
    intro i _
    by_cases hik : i = k
    · subst hik; rw [if_pos rfl]
    · rw [if_neg hik]
      rcases h.row i with h0 | ⟨_, _, _, h3⟩
      · rw [h0 j, Int.mul_zero]
      · rw [h3 k (fun e => hik e.symm), Int.zero_mul]
  rw [serSum_congr e, serSum_one (fun _ => s k k * s k j), if_pos hk]
  rcases h.row k with h0 | ⟨_, h1, _, _⟩
  · rw [h0 j, Int.mul_zero]
  · rw [h1, Int.one_mul]

theorem sumMod {f g : Nat → Int} : ∀ n, (∀ i, i < n → (f i - g i) % 101 = 0) → (serSum f n - serSum g n) % 101 = 0
  | 0, _ => rfl
  | n + 1, h => by
    have h1 := sumMod n (fun i hi => h i (by omega))
    have h2 := h n (by omega)
    rw [serSum, serSum]
    omega

/-- What is in the span is told by its numbers at the heads. -/
theorem Bs.coords {n : Nat} {s : Nat → Nat → Int} (h : Bs n s) {v : Nat → Int} (hv : Sp n (BsR n s) v) : ∀ j, j < n → (v j - serSum (fun i => v i * s i j) n) % 101 = 0 := by
  induction hv with
  | @zero v h0 =>
    intro j hj
    have h1 := sumMod (f := fun i => v i * s i j) (g := fun _ => 0) n (fun i hi => by
      have := mulModR (a := v i) (b := 0) (by have := h0 i hi; omega) (s i j)
      rw [Int.zero_mul] at this
      exact this)
    rw [serSum_zero (f := fun _ => (0 : Int)) (fun _ _ => rfl)] at h1
    have := h0 j hj
    omega
  | @step u v r c _ hr hs ih =>
    obtain ⟨k, hk, rfl⟩ := hr
    intro j hj
    have h1 := ih j hj
    have h2 := hs j hj
    have h3 := sumMod (f := fun i => v i * s i j) (g := fun i => (u i + c * s k i) * s i j) n (fun i hi => mulModR (hs i hi) (s i j))
    have e : serSum (fun i => (u i + c * s k i) * s i j) n = serSum (fun i => u i * s i j) n + c * s k j := by
      rw [serSum_congr (g := fun i => u i * s i j + c * (s k i * s i j)) (fun i _ => by rw [Int.add_mul, Int.mul_assoc]), serSum_add, serSum_mul, h.self hk]
    rw [e] at h3
    omega

theorem Sp.sum {n : Nat} {R : (Nat → Int) → Prop} (c : Nat → Int) (r : Nat → Nat → Int) : ∀ k, (∀ i, i < k → Sp n R (r i)) → Sp n R (fun j => serSum (fun i => c i * r i j) k)
  | 0, _ => .zero fun _ _ => rfl
  | k + 1, h => ((Sp.sum c r k (fun i hi => h i (by omega))).add ((h k (by omega)).smul (c k)))

/-- What is told by its numbers at the heads is in the span. -/
theorem Bs.span {n : Nat} {s : Nat → Nat → Int} {v : Nat → Int} (h : ∀ j, j < n → (v j - serSum (fun i => v i * s i j) n) % 101 = 0) : Sp n (BsR n s) v :=
  (Sp.sum v s n (fun i hi => Sp.of ⟨i, hi, rfl⟩)).congr h

theorem small_mod {a b : Int} (ha : 0 ≤ a ∧ a ≤ 100) (hb : 0 ≤ b ∧ b ≤ 100) (h : (a - b) % 101 = 0) : a = b := by omega

theorem Bs.head_of {n : Nat} {s t : Nat → Nat → Int} (hs : Bs n s) (ht : Bs n t) (h : ∀ i, i < n → Sp n (BsR n t) (s i)) {i : Nat} (hi : s i i = 1) : t i i = 1 := by
  rcases hs.row i with h0 | ⟨hin, _, hlow, _⟩
  · rw [h0 i] at hi; cases hi
  rcases ht.row i with t0 | ⟨_, t1, _, _⟩
  · exfalso
    have h1 := ht.coords (h i hin) i hin
    have h2 : serSum (fun k => s i k * t k i) n = 0 := serSum_zero fun k hk => by
      by_cases hki : k < i
      · rw [hlow k hki, Int.zero_mul]
      · by_cases e : k = i
        · subst e; rw [t0 k, Int.mul_zero]
        · rcases ht.row k with tk | ⟨_, _, tl, _⟩
          · rw [tk i, Int.mul_zero]
          · rw [tl i (by omega), Int.mul_zero]
    rw [h2, hi] at h1
    omega
  · exact t1

/-- A span has one base. -/
theorem Bs.unique {n : Nat} {s t : Nat → Nat → Int} (hs : Bs n s) (ht : Bs n t) (h1 : ∀ i, i < n → Sp n (BsR n t) (s i)) (h2 : ∀ i, i < n → Sp n (BsR n s) (t i)) : ∀ i j, i < n → j < n → s i j = t i j := by
  intro i j hi hj
  rcases hs.row i with s0 | ⟨_, s1, _, s3⟩
  · rcases ht.row i with t0 | ⟨_, t1, _, _⟩
    · rw [s0, t0]
    · have := Bs.head_of ht hs h2 t1
      rw [s0 i] at this; cases this
  · have t1 := Bs.head_of hs ht h1 s1
    refine small_mod (hs.rng i j) (ht.rng i j) ?_
    have h3 := ht.coords (h1 i hi) j hj
    have e : serSum (fun k => s i k * t k j) n = t i j := by
      have e2 : ∀ k, k < n → s i k * t k j = if k = i then t i j else 0 := by
        intro k hk
        by_cases hki : k = i
        · subst hki; rw [if_pos rfl, s1, Int.one_mul]
        · rw [if_neg hki]
          rcases ht.row k with tk | ⟨_, tk1, _, _⟩
          · rw [tk j, Int.mul_zero]
          · have sk1 := Bs.head_of ht hs h2 tk1
            rcases hs.row k with sk | ⟨_, _, _, sk3⟩
            · rw [sk k] at sk1; cases sk1
            · rw [sk3 i (fun e => hki e.symm), Int.zero_mul]
      rw [serSum_congr e2, serSum_one (fun _ => t i j), if_pos hi]
    rw [e] at h3
    exact h3

/-- A row less what is in the span of it. -/
def redV (n : Nat) (s : Nat → Nat → Int) (r : Nat → Int) (j : Nat) : Int := (r j - serSum (fun i => r i * s i j) n) % 101

theorem Bs.red_head {n : Nat} {s : Nat → Nat → Int} (h : Bs n s) (r : Nat → Int) {i : Nat} (hi : s i i = 1) : redV n s r i = 0 := by
  rcases h.row i with h0 | ⟨hin, _, _, h3⟩
  · rw [h0 i] at hi; cases hi
  have e : serSum (fun k => r k * s k i) n = r i := by
    have e2 : ∀ k, k < n → r k * s k i = if k = i then r k else 0 := by
      intro k _
      by_cases hk : k = i
      · subst hk; rw [if_pos rfl, hi, Int.mul_one]
      · rw [if_neg hk, h3 k hk, Int.mul_zero]
    rw [serSum_congr e2, serSum_one r, if_pos hin]
  rw [redV, e, Int.sub_self]; rfl

/-- A row is in the span just if nothing is left of it. -/
theorem Bs.has_iff {n : Nat} {s : Nat → Nat → Int} (h : Bs n s) {r : Nat → Int} : (∀ j, j < n → redV n s r j = 0) ↔ Sp n (BsR n s) r :=
  ⟨fun h0 => Bs.span h0, fun hr => h.coords hr⟩

/-- The base with another row in it: the row begins with 1 at a. -/
def putB (s : Nat → Nat → Int) (a : Nat) (d : Nat → Int) : Nat → Nat → Int := fun i j => if i = a then d j else (s i j - s i a * d j) % 101

theorem Bs.put {n : Nat} {s : Nat → Nat → Int} (h : Bs n s) {a : Nat} {d : Nat → Int} (ha : a < n) (hr : ∀ j, 0 ≤ d j ∧ d j ≤ 100) (h1 : d a = 1) (hlow : ∀ j, j < a → d j = 0) (hh : ∀ i, s i i = 1 → d i = 0) : Bs n (putB s a d) := by
  have hsa : ∀ j, s a j = 0 := by
    rcases h.row a with h0 | ⟨_, h2, _, _⟩
    · exact h0
    · have := hh a h2
      rw [h1] at this; cases this
  refine ⟨fun i j => ?_, fun i => ?_⟩
  · unfold putB
    split
    · exact hr j
    · omega
  · by_cases hia : i = a
    · subst hia
      refine .inr ⟨ha, by unfold putB; rw [if_pos rfl]; exact h1, fun j hj => by unfold putB; rw [if_pos rfl]; exact hlow j hj, fun k hk => ?_⟩
      unfold putB
      rw [if_neg hk, h1, Int.mul_one, Int.sub_self]; rfl
    · rcases h.row i with h0 | ⟨hin, hi1, hil, hic⟩
      · refine .inl fun j => ?_
        unfold putB
        rw [if_neg hia, h0 j, h0 a, Int.zero_mul]; rfl
      · have hd := hh i hi1
        refine .inr ⟨hin, ?_, fun j hj => ?_, fun k hk => ?_⟩
        · unfold putB
          rw [if_neg hia, hi1, hd, Int.mul_zero]; rfl
        · unfold putB
          rw [if_neg hia, hil j hj]
          by_cases hai : a < i
          · rw [hil a hai, Int.zero_mul]; rfl
          · rw [hlow j (by omega), Int.mul_zero]; rfl
        · unfold putB
          split
          · exact hd
          · rw [hic k hk, hd, Int.mul_zero]; rfl

/-- The span of the base with the row. -/
theorem Bs.put_span {n : Nat} {s : Nat → Nat → Int} {a : Nat} {d : Nat → Int} (ha : a < n) (hsa : ∀ j, s a j = 0) {v : Nat → Int} :
    Sp n (BsR n (putB s a d)) v ↔ Sp n (fun r => BsR n s r ∨ r = d) v := by
  constructor
  · refine Sp.mono fun r hr => ?_
    obtain ⟨i, hi, rfl⟩ := hr
    by_cases hia : i = a
    · refine (Sp.of (.inr rfl) : Sp n _ d).congr fun j _ => ?_
      unfold putB
      rw [if_pos hia, Int.sub_self]; rfl
    · refine ((Sp.of (.inl ⟨i, hi, rfl⟩) : Sp n _ (s i)).sub (s i a) (Sp.of (.inr rfl) : Sp n _ d)).congr fun j _ => ?_
      unfold putB
      rw [if_neg hia]
      omega
  · refine Sp.mono fun r hr => ?_
    have hd : Sp n (BsR n (putB s a d)) d := (Sp.of ⟨a, ha, rfl⟩ : Sp n _ (putB s a d a)).congr fun j _ => by
      unfold putB
      rw [if_pos rfl, Int.sub_self]; rfl
    rcases hr with ⟨i, hi, rfl⟩ | rfl
    · by_cases hia : i = a
      · subst hia
        exact .zero fun j _ => by rw [hsa j]; rfl
      · refine ((Sp.of ⟨i, hi, rfl⟩ : Sp n _ (putB s a d i)).sub (-(s i a)) hd).congr fun j _ => ?_
        unfold putB
        rw [if_neg hia, Int.neg_mul]
        omega
    · exact hd

/-- What is added stands for the row that was added. -/
theorem Bs.red_span {n : Nat} {s : Nat → Nat → Int} (r : Nat → Int) : Sp n (BsR n s) (fun j => r j - redV n s r j) := by
  refine (Sp.sum r s n (fun i hi => Sp.of ⟨i, hi, rfl⟩)).congr fun j _ => ?_
  unfold redV
  omega

theorem span_swap {n : Nat} {s : Nat → Nat → Int} {r d : Nat → Int} {c e : Int} (hc : (c * e - 1) % 101 = 0) (hd : ∀ j, j < n → (d j - e * redV n s r j) % 101 = 0) {v : Nat → Int} :
    Sp n (fun x => BsR n s x ∨ x = d) v ↔ Sp n (fun x => BsR n s x ∨ x = r) v := by
  have hsub : ∀ {x y : Nat → Int}, Sp n (BsR n s) x → Sp n (fun z => BsR n s z ∨ z = y) x := fun h => h.mono fun z hz => Sp.of (.inl hz)
  have hred := Bs.red_span (n := n) (s := s) r
  constructor
  · refine Sp.mono fun x hx => ?_
    rcases hx with hx | rfl
    · exact Sp.of (.inl hx)
    · refine (((Sp.of (.inr rfl) : Sp n _ r).sub 1 (hsub hred)).smul e).congr fun j hj => ?_
      have := hd j hj
      show (x j - e * (r j - 1 * (r j - redV n s r j))) % 101 = 0
      rw [show r j - 1 * (r j - redV n s r j) = redV n s r j by omega]
      exact this
  · refine Sp.mono fun x hx => ?_
    rcases hx with hx | rfl
    · exact Sp.of (.inl hx)
    · refine ((hsub hred).add ((Sp.of (.inr rfl) : Sp n _ d).smul c)).congr fun j hj => ?_
      have h1 := mulMod (hd j hj) c
      have h2 := mulModR hc (redV n s x j)
      rw [Int.one_mul, Int.mul_assoc] at h2
      show (x j - (x j - redV n s x j + c * d j)) % 101 = 0
      omega

end Go.Proofs.YtoeebipahifpcaaGreat
end
end
