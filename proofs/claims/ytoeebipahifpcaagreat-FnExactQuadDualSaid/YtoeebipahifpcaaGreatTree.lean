/- Plain mathematics of trees: what a tree is, its text, how both readers read it. No walk here. -/
namespace Go.Proofs.YtoeebipahifpcaaGreat

inductive T where
  | leaf
  | node (c : UInt8) (ks : List T)

mutual
def T.leaves : T → Nat
  | .leaf => 1
  | .node _ ks => T.leavesL ks
def T.leavesL : List T → Nat
  | [] => 0
  | k :: ks => k.leaves + T.leavesL ks
end

mutual
def T.nodes : T → Nat
  | .leaf => 0
  | .node _ ks => 1 + T.nodesL ks
def T.nodesL : List T → Nat
  | [] => 0
  | k :: ks => k.nodes + T.nodesL ks
end

mutual
def T.text : T → List UInt8
  | .leaf => [42]
  | .node c ks => 40 :: c :: (T.textL ks ++ [41])
def T.textL : List T → List UInt8
  | [] => []
  | k :: ks => 32 :: (k.text ++ T.textL ks)
end

-- Letters from a to h, one to six kids.
mutual
def T.wf : T → Prop
  | .leaf => True
  | .node c ks => 97 ≤ c.toNat ∧ c.toNat ≤ 104 ∧ 1 ≤ ks.length ∧ ks.length ≤ 6 ∧ T.wfL ks
def T.wfL : List T → Prop
  | [] => True
  | k :: ks => k.wf ∧ T.wfL ks
end

/-- Kids, each behind a blank: the rest of a node, as the model reads it. -/
def kidsA (rd : List UInt8 → Option (T × List UInt8)) : Nat → List T → List UInt8 → Option (List T × List UInt8)
  | 0, acc, s => some (acc, s)
  | n + 1, acc, s =>
    match s with
    | [] => some (acc, [])
    | x :: s' =>
      if x = 32 then
        match rd s' with
        | none => none
        | some (t, r) => kidsA rd n (acc ++ [t]) r
      else some (acc, x :: s')

/-- The model's reader: 'f' is how many depths are left. -/
def rd : Nat → List UInt8 → Option (T × List UInt8)
  | 0, _ => none
  | _ + 1, [] => none
  | f + 1, x :: r =>
    if x = 42 then some (.leaf, r)
    else if x ≠ 40 then none
    else match r with
      | [] => none
      | c :: r' =>
        if c.toNat < 97 ∨ 104 < c.toNat then none
        else match kidsA (rd f) r'.length [] r' with
          | none => none
          | some (_, []) => none
          | some (ks, y :: r3) => if y = 41 ∧ 1 ≤ ks.length ∧ ks.length ≤ 6 then some (.node c ks, r3) else none

theorem rd_other {f : Nat} {x : UInt8} {r : List UInt8} (h : x ≠ 42) (h' : x ≠ 40) : rd (f + 1) (x :: r) = none := by
  simp only [rd]; rw [if_neg h, if_pos h']

theorem rd_short {f : Nat} : rd (f + 1) [40] = none := by
  simp only [rd]; rw [if_neg (by decide), if_neg (by decide)]

theorem rd_letter {f : Nat} {c : UInt8} {r : List UInt8} (h : c.toNat < 97 ∨ 104 < c.toNat) : rd (f + 1) (40 :: c :: r) = none := by
  simp only [rd]; rw [if_neg (by decide), if_neg (by decide), if_pos h]

/-- What a node's end makes of its kids. -/
def shut (c : UInt8) : Option (List T × List UInt8) → Option (T × List UInt8)
  | none => none
  | some (_, []) => none
  | some (ks, y :: r3) => if y = 41 ∧ 1 ≤ ks.length ∧ ks.length ≤ 6 then some (.node c ks, r3) else none

theorem rd_node {f : Nat} {c : UInt8} {r : List UInt8} (h : 97 ≤ c.toNat) (h' : c.toNat ≤ 104) : rd (f + 1) (40 :: c :: r) = shut c (kidsA (rd f) r.length [] r) := by
  simp only [rd]; rw [if_neg (by decide), if_neg (by decide), if_neg (by omega)]
  rfl

theorem leavesL_append (a b : List T) : T.leavesL (a ++ b) = T.leavesL a + T.leavesL b := by
  induction a with
  | nil => simp [T.leavesL]
  | cons x a ih => simp [T.leavesL, ih, Nat.add_assoc]

theorem nodesL_append (a b : List T) : T.nodesL (a ++ b) = T.nodesL a + T.nodesL b := by
  induction a with
  | nil => simp [T.nodesL]
  | cons x a ih => simp [T.nodesL, ih, Nat.add_assoc]

theorem textL_append (a b : List T) : T.textL (a ++ b) = T.textL a ++ T.textL b := by
  induction a with
  | nil => simp [T.textL]
  | cons x a ih => simp [T.textL, ih]

theorem wfL_append (a b : List T) : T.wfL (a ++ b) ↔ T.wfL a ∧ T.wfL b := by
  induction a with
  | nil => simp [T.wfL]
  | cons x a ih => simp [T.wfL, ih, and_assoc]

theorem wfL_get {ks : List T} (h : T.wfL ks) (k : Nat) (hk : k < ks.length) : ks[k].wf := by
  induction ks generalizing k with
  | nil => simp at hk
  | cons a ks ih =>
    rw [T.wfL] at h
    cases k with
    | zero => exact h.1
    | succ k => exact ih h.2 k (by simpa using hk)

theorem leavesL_take {ks : List T} {k : Nat} (h : k < ks.length) : T.leavesL (ks.take (k+1)) = T.leavesL (ks.take k) + (ks[k]).leaves := by
  rw [List.take_succ_eq_append_getElem h, leavesL_append]; simp [T.leavesL]

theorem leavesL_take_le {ks : List T} (k : Nat) : T.leavesL (ks.take k) ≤ T.leavesL ks := by
  have h := leavesL_append (ks.take k) (ks.drop k)
  rw [List.take_append_drop] at h; omega

theorem nodesL_take {ks : List T} {k : Nat} (h : k < ks.length) : T.nodesL (ks.take (k+1)) = T.nodesL (ks.take k) + (ks[k]).nodes := by
  rw [List.take_succ_eq_append_getElem h, nodesL_append]; simp [T.nodesL]

theorem nodesL_take_le {ks : List T} (k : Nat) : T.nodesL (ks.take k) ≤ T.nodesL ks := by
  have h := nodesL_append (ks.take k) (ks.drop k)
  rw [List.take_append_drop] at h; omega

/-- What 'kidsA' gives: more kids, and their text was ahead of what is left over. -/
theorem kidsA_some {g : List UInt8 → Option (T × List UInt8)} (hg : ∀ s t r, g s = some (t, r) → t.wf ∧ s = t.text ++ r) :
    ∀ (n : Nat) (acc : List T) (s : List UInt8) (ks : List T) (r : List UInt8), kidsA g n acc s = some (ks, r) →
      ∃ more, ks = acc ++ more ∧ T.wfL more ∧ s = T.textL more ++ r := by
  intro n
  induction n with
  | zero => intro acc s ks r h; simp only [kidsA, Option.some.injEq, Prod.mk.injEq] at h; exact ⟨[], by simp [h.1], by simp [T.wfL], by simp [T.textL, h.2]⟩
  | succ n ih =>
    intro acc s ks r h
    cases s with
    | nil => simp only [kidsA, Option.some.injEq, Prod.mk.injEq] at h; exact ⟨[], by simp [h.1], by simp [T.wfL], by simp [T.textL, h.2]⟩
    | cons x s' =>
      simp only [kidsA] at h
      by_cases hx : x = 32
      · rw [if_pos hx] at h
        split at h
        · cases h
        · rename_i t r' he
          obtain ⟨hw, hs⟩ := hg _ _ _ he
          obtain ⟨more, h1, h2, h3⟩ := ih _ _ _ _ h
          exact ⟨t :: more, by simp [h1], by simp [T.wfL, hw, h2], by simp [T.textL, hx, hs, h3]⟩
      · rw [if_neg hx] at h
        simp only [Option.some.injEq, Prod.mk.injEq] at h; exact ⟨[], by simp [h.1], by simp [T.wfL], by simp [T.textL, h.2]⟩

/-- What the model's reader reads is a tree, and its text was ahead. -/
theorem rd_some : ∀ (f : Nat) (s : List UInt8) (t : T) (r : List UInt8), rd f s = some (t, r) → t.wf ∧ s = t.text ++ r := by
  intro f
  induction f with
  | zero => intro s t r h; simp [rd] at h
  | succ f ih =>
    intro s t r h
    cases s with
    | nil => simp [rd] at h
    | cons x s =>
      simp only [rd] at h
      by_cases h1 : x = 42
      · rw [if_pos h1] at h
        simp only [Option.some.injEq, Prod.mk.injEq] at h
        obtain ⟨rfl, rfl⟩ := h
        exact ⟨by simp [T.wf], by simp [T.text, h1]⟩
      · rw [if_neg h1] at h
        by_cases h2 : x = 40
        · rw [if_neg (by simp [h2])] at h
          cases s with
          | nil => simp at h
          | cons c s =>
            simp only at h
            by_cases h3 : c.toNat < 97 ∨ 104 < c.toNat
            · rw [if_pos h3] at h; cases h
            · rw [if_neg h3] at h
              split at h
              · cases h
              · cases h
              · rename_i ks y r3 he
                by_cases h4 : y = 41 ∧ 1 ≤ ks.length ∧ ks.length ≤ 6
                · rw [if_pos h4] at h
                  simp only [Option.some.injEq, Prod.mk.injEq] at h
                  obtain ⟨rfl, rfl⟩ := h
                  obtain ⟨more, e1, e2, e3⟩ := kidsA_some ih _ _ _ _ _ he
                  simp only [List.nil_append] at e1
                  subst e1
                  refine ⟨?_, ?_⟩
                  · rw [T.wf]; exact ⟨by omega, by omega, h4.2.1, h4.2.2, e2⟩
                  · rw [T.text, h2, e3, h4.1]; simp
                · rw [if_neg h4] at h; cases h
        · rw [if_pos h2] at h; cases h

theorem text_ne (t : T) : 1 ≤ t.text.length := by cases t <;> simp [T.text]

mutual
theorem text_length : ∀ (t : T), t.text.length + 1 = 2 * t.leaves + 4 * t.nodes
  | .leaf => by simp [T.text, T.leaves, T.nodes]
  | .node c ks => by
    have := textL_length ks
    simp [T.text, T.leaves, T.nodes]; omega
theorem textL_length : ∀ (ks : List T), (T.textL ks).length = 2 * T.leavesL ks + 4 * T.nodesL ks
  | [] => by simp [T.textL, T.leavesL, T.nodesL]
  | k :: ks => by
    have h1 := text_length k
    have h2 := textL_length ks
    simp [T.textL, T.leavesL, T.nodesL]; omega
end

theorem leaves_le_text (t : T) : t.leaves ≤ t.text.length := by
  have := text_length t; have := text_ne t; omega

theorem nodes_le_text (t : T) : t.nodes ≤ t.text.length := by
  have := text_length t; have := text_ne t; omega

-- A tree's text is read as this tree, where there are depths enough.
mutual
theorem rd_text : ∀ (t : T), t.wf → ∀ f r, t.nodes < f → rd f (t.text ++ r) = some (t, r)
  | .leaf, _, f, r, h => by
    cases f with
    | zero => omega
    | succ f => simp [T.text, rd]
  | .node c ks, hw, f, r, h => by
    cases f with
    | zero => omega
    | succ f =>
      rw [T.wf] at hw
      rw [T.nodes] at h
      have := kidsA_textL ks hw.2.2.2.2 f (41 :: r) [] (T.textL ks ++ (41 :: r)).length (by omega) (by simp) (by simp)
      simp only [T.text, List.cons_append, List.append_assoc, List.nil_append, rd]
      rw [if_neg (by decide), if_neg (by decide), if_neg (by omega), this]
      simp only [List.nil_append]
      rw [if_pos ⟨trivial, hw.2.2.1, hw.2.2.2.1⟩]
theorem kidsA_textL : ∀ (ks : List T), T.wfL ks → ∀ f (r : List UInt8) acc n, T.nodesL ks < f → (∀ x r', r = x :: r' → x ≠ 32) → (T.textL ks).length ≤ n →
    kidsA (rd f) n acc (T.textL ks ++ r) = some (acc ++ ks, r)
  | [], _, f, r, acc, n, _, hr, _ => by
    cases n with
    | zero => simp [T.textL, kidsA]
    | succ n =>
      cases r with
      | nil => simp [T.textL, kidsA]
      | cons x r' => simp [T.textL, kidsA, hr x r' rfl]
  | k :: ks, hw, f, r, acc, n, h, hr, hn => by
    rw [T.wfL] at hw
    rw [T.nodesL] at h
    cases n with
    | zero => simp [T.textL] at hn
    | succ n =>
      have h1 := rd_text k hw.1 f (T.textL ks ++ r) (by omega)
      simp only [T.textL, List.length_cons, List.length_append] at hn
      have h2 := kidsA_textL ks hw.2 f r (acc ++ [k]) n (by omega) hr (by omega)
      simp only [T.textL, List.cons_append, List.append_assoc, kidsA]
      rw [if_pos trivial, h1]
      simp only
      rw [h2]; simp
end

def small (t : T) : Bool := decide (t.leaves ≤ 12) && decide (t.nodes ≤ 16)

/-- A text is read as a tree that is small enough. -/
def parse (s : List UInt8) : Option T :=
  if 200 < s.length then none
  else match rd 17 s with
    | some (t, []) => if small t = true then some t else none
    | _ => none

theorem small_iff {t : T} : small t = true ↔ t.leaves ≤ 12 ∧ t.nodes ≤ 16 := by simp [small]

theorem parse_some {s : List UInt8} {t : T} (h : parse s = some t) : t.wf ∧ s = t.text ∧ t.leaves ≤ 12 ∧ t.nodes ≤ 16 := by
  unfold parse at h
  split at h
  · cases h
  · split at h
    · rename_i t' he
      split at h
      · rename_i hs
        cases h
        obtain ⟨h1, h2⟩ := rd_some _ _ _ _ he
        exact ⟨h1, by simpa using h2, small_iff.1 hs⟩
      · cases h
    · cases h

theorem parse_text {t : T} (hw : t.wf) (hl : t.leaves ≤ 12) (hn : t.nodes ≤ 16) : parse t.text = some t := by
  have h1 := text_length t
  have h2 := rd_text t hw 17 [] (by omega)
  rw [List.append_nil] at h2
  unfold parse
  rw [if_neg (by omega), h2]
  simp only
  rw [if_pos (small_iff.2 ⟨hl, hn⟩)]

/-- What a reader that counts gives. -/
def lim (L N : Nat) : Option (T × List UInt8) → Option (T × List UInt8)
  | some (t, r) => if L + t.leaves ≤ 12 ∧ N + t.nodes ≤ 16 then some (t, r) else none
  | none => none

theorem lim_none (L N : Nat) : lim L N none = none := rfl

theorem leaves_pos : ∀ (t : T), t.wf → 1 ≤ t.leaves
  | .leaf, _ => by simp [T.leaves]
  | .node c [], h => by rw [T.wf] at h; simp at h
  | .node c (k :: ks), h => by
    rw [T.wf, T.wfL] at h
    have := leaves_pos k h.2.2.2.2.1
    simp only [T.leaves, T.leavesL]; omega

/-- A kid that can't be counted any more: nor can the node. -/
theorem lim_kid_none {f n L0 N0 L N : Nat} {c : UInt8} {acc : List T} {s : List UInt8} (hL : L = L0 + T.leavesL acc) (hN : N = N0 + 1 + T.nodesL acc)
    (h : lim L N (rd f s) = none) : lim L0 N0 (shut c (kidsA (rd f) (n + 1) acc (32 :: s))) = none := by
  rw [kidsA, if_pos rfl]
  cases hr : rd f s with
  | none => simp only [shut, lim]
  | some p =>
    obtain ⟨t, r⟩ := p
    simp only
    rw [hr, lim] at h
    have hno : ¬ (L + t.leaves ≤ 12 ∧ N + t.nodes ≤ 16) := fun e => by rw [if_pos e] at h; cases h
    cases hk : kidsA (rd f) n (acc ++ [t]) r with
    | none => simp only [shut, lim]
    | some q =>
      obtain ⟨ks, r'⟩ := q
      obtain ⟨more, h1, h2, h3⟩ := kidsA_some (rd_some f) _ _ _ _ _ hk
      cases r' with
      | nil => simp only [shut, lim]
      | cons y r3 =>
        simp only [shut]
        split
        · rw [lim, if_neg]
          subst h1
          simp only [T.leaves, T.nodes, leavesL_append, nodesL_append, T.leavesL, T.nodesL]
          omega
        · rfl

/-- Too many kids. -/
theorem shut_many {f n : Nat} {c : UInt8} {acc : List T} {s : List UInt8} (h : 6 < acc.length) : shut c (kidsA (rd f) n acc s) = none := by
  cases hk : kidsA (rd f) n acc s with
  | none => rfl
  | some q =>
    obtain ⟨ks, r'⟩ := q
    obtain ⟨more, h1, h2, h3⟩ := kidsA_some (rd_some f) _ _ _ _ _ hk
    cases r' with
    | nil => rfl
    | cons y r3 =>
      simp only [shut]
      rw [if_neg]
      subst h1
      simp; omega

/-- The counting reader reads a whole text just where the model does. -/
theorem lim_whole {s : List UInt8} : (match lim 0 0 (rd 17 s) with | some (t, []) => some t | _ => none) = parse s := by
  cases hr : rd 17 s with
  | none => simp [lim, parse, hr]
  | some p =>
    obtain ⟨t, r⟩ := p
    obtain ⟨hw, hs⟩ := rd_some _ _ _ _ hr
    cases r with
    | cons x r => 
      have h1 : parse s = none := by unfold parse; rw [hr]; split <;> rfl
      rw [h1, lim]
      split <;> rename_i h <;> first | rfl | (split at h <;> simp at h)
    | nil =>
      rw [List.append_nil] at hs
      by_cases hsm : t.leaves ≤ 12 ∧ t.nodes ≤ 16
      · have h1 := parse_text hw hsm.1 hsm.2
        rw [← hs] at h1
        rw [h1, lim, if_pos (by simpa using hsm)]
      · have h1 : parse s = none := by
          cases hp : parse s with
          | none => rfl
          | some t' =>
            obtain ⟨_, e, g1, g2⟩ := parse_some hp
            have h2 := rd_text t ‹_› (t.nodes + t'.nodes + 1) [] (by omega)
            have h3 := rd_text t' ‹_› (t.nodes + t'.nodes + 1) [] (by omega)
            rw [List.append_nil, ← hs, e, ← List.append_nil t'.text, h3] at h2
            simp only [Option.some.injEq, Prod.mk.injEq, and_true] at h2
            subst h2
            exact absurd ⟨g1, g2⟩ hsm
        rw [h1, lim, if_neg (by simpa using hsm)]

def leavesOf : Option T → Int
  | none => -1
  | some t => t.leaves
def nodesOf : Option T → Int
  | none => -1
  | some t => t.nodes

end Go.Proofs.YtoeebipahifpcaaGreat
