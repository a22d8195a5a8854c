/- Series: products, powers, what is composed and inverses, as functions of the index; no walk. -/
import Derived.ProofKit
namespace Go.Proofs.Ytnobpckmlhgeiaa

/-- The sum of the first n numbers. -/
def serSum (f : Nat → Int) : Nat → Int
  | 0 => 0
  | n + 1 => serSum f n + f n

/-- A list of n numbers, none beyond m up or down. -/
def serIn (n : Nat) (m : Int) (f : Nat → Int) : Bool := (List.range n).all fun j => decide (-m ≤ f j) && decide (f j ≤ m)

/-- A series. -/
def serOk (n : Nat) (f : Nat → Int) : Bool := decide (1 ≤ n) && decide (n ≤ 8) && decide (f 0 = 1) && serIn n 1000000 f

/-- The product without the first power of x. -/
def serMul (s o : Nat → Int) (i : Nat) : Int := serSum (fun k => s k * o (i - k)) (i + 1)

/-- The product. -/
def serNext (s o : Nat → Int) : Nat → Int
  | 0 => 0
  | i + 1 => serMul s o i

/-- The power m + 1. -/
def serPow (g : Nat → Int) : Nat → Nat → Int
  | 0 => g
  | m + 1 => serNext (serPow g m) g

/-- The sum of the first i powers of g. -/
def serPart (f g : Nat → Int) (i j : Nat) : Int := serSum (fun t => f t * serPow g t j) i

/-- Nothing on the way is too great. -/
def serWay (f g : Nat → Int) (n : Nat) : Bool := (List.range n).all fun i => serIn n 1000000000000 (serPow g i) && serIn n 1000000000000 (serPart f g (i + 1))

/-- f with g put for x, if nothing is too great. -/
def serComp (f g : Nat → Int) (n : Nat) : Option (Nat → Int) := if serWay f g n = true then some (serPart f g n) else none

/-- The series that has another number at one place. -/
def serPut (u : Nat → Int) (k : Nat) (v : Int) : Nat → Int := fun j => if j = k then v else u j

/-- x alone. -/
def serX : Nat → Int := fun j => if j = 0 then 1 else 0

/-- The inverse up to the number k. -/
def serInv (s : Nat → Int) (n : Nat) : Nat → Option (Nat → Int)
  | 0 => some serX
  | k + 1 => match serInv s n k with
    | none => none
    | some u => match serComp s u n with
      | none => none
      | some c => if -1000000 ≤ - c (k + 1) ∧ - c (k + 1) ≤ 1000000 then some (serPut u (k + 1) (- c (k + 1))) else none

/-- Turned. -/
def serTurn (s : Nat → Int) : Nat → Int := fun j => if j % 2 = 1 then - s j else s j

theorem serIn_iff {n : Nat} {m : Int} {f : Nat → Int} : serIn n m f = true ↔ ∀ j, j < n → -m ≤ f j ∧ f j ≤ m := by
  simp [serIn, List.all_eq_true]

theorem serIn_false {n : Nat} {m : Int} {f : Nat → Int} {j : Nat} (hj : j < n) (h : ¬ (-m ≤ f j ∧ f j ≤ m)) : serIn n m f = false := by
  cases e : serIn n m f with
  | false => rfl
  | true => exact absurd (serIn_iff.1 e j hj) h

theorem serIn_congr {n : Nat} {m : Int} {f g : Nat → Int} (h : ∀ j, j < n → f j = g j) : serIn n m f = serIn n m g := by
  rw [Bool.eq_iff_iff, serIn_iff, serIn_iff]
  constructor
  · intro a j hj; rw [← h j hj]; exact a j hj
  · intro a j hj; rw [h j hj]; exact a j hj

theorem serSum_congr {f g : Nat → Int} {n : Nat} (h : ∀ j, j < n → f j = g j) : serSum f n = serSum g n := by
  induction n with
  | zero => rfl
  | succ n ih => rw [serSum, serSum, ih (fun j hj => h j (by omega)), h n (by omega)]

theorem serSum_zero {f : Nat → Int} {n : Nat} (h : ∀ j, j < n → f j = 0) : serSum f n = 0 := by
  induction n with
  | zero => rfl
  | succ n ih => rw [serSum, ih (fun j hj => h j (by omega)), h n (by omega)]; rfl

theorem serSum_bound {f : Nat → Int} {n : Nat} {m : Int} (h : ∀ j, j < n → -m ≤ f j ∧ f j ≤ m) : -(n * m) ≤ serSum f n ∧ serSum f n ≤ n * m := by
  induction n with
  | zero => simp [serSum]
  | succ n ih =>
    have h1 := ih (fun j hj => h j (by omega))
    have h2 := h n (by omega)
    have e : ((n + 1 : Nat) : Int) * m = n * m + m := by rw [Int.natCast_succ, Int.add_mul, Int.one_mul]
    rw [e, serSum]
    omega

theorem ser_mul_bound {a b A B : Int} (ha : -A ≤ a ∧ a ≤ A) (hb : -B ≤ b ∧ b ≤ B) : -(A * B) ≤ a * b ∧ a * b ≤ A * B := by
  have hA : 0 ≤ A := by omega
  have hB : 0 ≤ B := by omega
  have h1 : (a * b).natAbs ≤ (A * B).natAbs := by
    rw [Int.natAbs_mul, Int.natAbs_mul]
    exact Nat.mul_le_mul (by omega) (by omega)
  have h2 : 0 ≤ A * B := Int.mul_nonneg hA hB
  omega

theorem serPow_low (g : Nat → Int) (m j : Nat) (h : j < m) : serPow g m j = 0 := by
  induction m generalizing j with
  | zero => omega
  | succ m ih =>
    cases j with
    | zero => rfl
    | succ j =>
      show serMul (serPow g m) g j = 0
      exact serSum_zero fun k hk => by rw [ih k (by omega), Int.zero_mul]

theorem serMul_congr {s s' o o' : Nat → Int} {i : Nat} (h1 : ∀ j, j ≤ i → s j = s' j) (h2 : ∀ j, j ≤ i → o j = o' j) : serMul s o i = serMul s' o' i :=
  serSum_congr fun k hk => by rw [h1 k (by omega), h2 (i - k) (by omega)]

theorem serNext_congr {s s' o o' : Nat → Int} {i : Nat} (h1 : ∀ j, j ≤ i → s j = s' j) (h2 : ∀ j, j ≤ i → o j = o' j) : serNext s o i = serNext s' o' i := by
  cases i with
  | zero => rfl
  | succ i => exact serMul_congr (fun j hj => h1 j (by omega)) (fun j hj => h2 j (by omega))

theorem serPow_congr {g g' : Nat → Int} {i : Nat} (h : ∀ j, j ≤ i → g j = g' j) (m : Nat) : ∀ j, j ≤ i → serPow g m j = serPow g' m j := by
  induction m with
  | zero => exact h
  | succ m ih => intro j hj; exact serNext_congr (fun t ht => ih t (by omega)) (fun t ht => h t (by omega))

theorem serPart_congr {f f' g g' : Nat → Int} {i j : Nat} (hf : ∀ t, t < i → f t = f' t) (hg : ∀ t, t ≤ j → g t = g' t) : serPart f g i j = serPart f' g' i j :=
  serSum_congr fun t ht => by rw [hf t ht, serPow_congr hg t j (Nat.le_refl _)]

/-- What is composed asks only for the first n numbers. -/
theorem serWay_congr {f f' g g' : Nat → Int} {n : Nat} (hf : ∀ t, t < n → f t = f' t) (hg : ∀ t, t < n → g t = g' t) : serWay f g n = serWay f' g' n := by
  rw [Bool.eq_iff_iff, serWay, serWay, List.all_eq_true, List.all_eq_true]
  have e : ∀ i, i < n → (serIn n 1000000000000 (serPow g i) && serIn n 1000000000000 (serPart f g (i + 1))) = (serIn n 1000000000000 (serPow g' i) && serIn n 1000000000000 (serPart f' g' (i + 1))) := fun i hi => by
    rw [serIn_congr (fun j hj => serPow_congr (i := j) (fun t ht => hg t (by omega)) i j (Nat.le_refl _)), serIn_congr (fun j hj => serPart_congr (fun t ht => hf t (by omega)) (fun t ht => hg t (by omega)))]
  constructor
  · intro h i hi; rw [← e i (by simpa using hi)]; exact h i hi
  · intro h i hi; rw [e i (by simpa using hi)]; exact h i hi

theorem serWay_iff {f g : Nat → Int} {n : Nat} : serWay f g n = true ↔ ∀ i, i < n → serIn n 1000000000000 (serPow g i) = true ∧ serIn n 1000000000000 (serPart f g (i + 1)) = true := by
  simp [serWay, List.all_eq_true]

theorem serWay_pow {f g : Nat → Int} {n i : Nat} (hi : i < n) (h : serIn n 1000000000000 (serPow g i) = false) : serWay f g n = false := by
  cases e : serWay f g n with
  | false => rfl
  | true => rw [(serWay_iff.1 e i hi).1] at h; exact absurd h (by simp)

theorem serWay_part {f g : Nat → Int} {n i : Nat} (hi : i < n) (h : serIn n 1000000000000 (serPart f g (i + 1)) = false) : serWay f g n = false := by
  cases e : serWay f g n with
  | false => rfl
  | true => rw [(serWay_iff.1 e i hi).2] at h; exact absurd h (by simp)

/-- The power behind the last one has no number left. -/
theorem serPow_last (g : Nat → Int) (n : Nat) : serIn n 1000000000000 (serPow g n) = true :=
  serIn_iff.2 fun j hj => by rw [serPow_low g n j hj]; omega

theorem serOk_iff {n : Nat} {f : Nat → Int} : serOk n f = true ↔ 1 ≤ n ∧ n ≤ 8 ∧ f 0 = 1 ∧ ∀ j, j < n → -1000000 ≤ f j ∧ f j ≤ 1000000 := by
  simp [serOk, serIn_iff, and_assoc]

theorem serOk_congr {n : Nat} {f g : Nat → Int} (h : ∀ j, j < n → f j = g j) : serOk n f = serOk n g := by
  rw [Bool.eq_iff_iff, serOk_iff, serOk_iff]
  constructor
  · rintro ⟨a, b, c, d⟩; exact ⟨a, b, by rw [← h 0 (by omega)]; exact c, fun j hj => by rw [← h j hj]; exact d j hj⟩
  · rintro ⟨a, b, c, d⟩; exact ⟨a, b, by rw [h 0 (by omega)]; exact c, fun j hj => by rw [h j hj]; exact d j hj⟩

theorem serX_ok {n : Nat} (h1 : 1 ≤ n) (h2 : n ≤ 8) : serOk n serX = true :=
  serOk_iff.2 ⟨h1, h2, rfl, fun j _ => by unfold serX; split <;> omega⟩

/-- What is found of the inverse is a series, with 0 behind. -/
theorem serInv_ok {s : Nat → Int} {n : Nat} (h1 : 1 ≤ n) (h2 : n ≤ 8) : ∀ (k : Nat) (u : Nat → Int), serInv s n k = some u → serOk n u = true ∧ ∀ j, k < j → u j = 0 := by
  intro k
  induction k with
  | zero =>
    intro u hu
    simp only [serInv, Option.some.injEq] at hu
    subst hu
    exact ⟨serX_ok h1 h2, fun j hj => by unfold serX; rw [if_neg (by omega)]⟩
  | succ k ih =>
    intro u hu
    rw [serInv] at hu
    cases hk : serInv s n k with
    | none => rw [hk] at hu; cases hu
    | some u0 =>
      rw [hk] at hu
      obtain ⟨i1, i2⟩ := ih u0 hk
      cases hc : serComp s u0 n with
      | none => simp only [hc] at hu; cases hu
      | some c =>
        simp only [hc] at hu
        split at hu
        · rename_i hb
          simp only [Option.some.injEq] at hu
          subst hu
          have i3 := serOk_iff.1 i1
          refine ⟨serOk_iff.2 ⟨h1, h2, ?_, fun j hj => ?_⟩, fun j hj => ?_⟩
          · unfold serPut; rw [if_neg (by omega)]; exact i3.2.2.1
          · unfold serPut; split
            · exact hb
            · exact i3.2.2.2 j hj
          · unfold serPut; rw [if_neg (by omega)]; exact i2 j (by omega)
        · cases hu

end Go.Proofs.Ytnobpckmlhgeiaa
