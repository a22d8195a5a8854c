/- Merged out of: XPOrdM, XPOrdG. -/
import Derived.Test.YtdjcgakmeebijaaGreatSumM
import Derived.Test.YtdjcgakmeebijaaGreatKOrdI
import Derived.Test.YtdjcgakmeebijaaGreatLawGraft
section
/- The order of trees is kept by grafting: what FnOrder says, as mathematics. No walk here. -/
namespace Go.Proofs.YtdjcgakmeebijaaGreat

mutual
theorem paths_pre : ∀ (t : T) (p way : List UInt8), t.paths (p ++ way) = (t.paths way).map (p ++ ·)
  | .leaf, p, way => by simp [T.paths]
  | .node c ks, p, way => by
    rw [T.paths, T.paths, List.append_assoc]
    exact pathsL_pre ks p (way ++ [c])
theorem pathsL_pre : ∀ (ks : List T) (p way : List UInt8), T.pathsL (p ++ way) ks = (T.pathsL way ks).map (p ++ ·)
  | [], p, way => by simp [T.pathsL]
  | k :: ks, p, way => by
    rw [T.pathsL, T.pathsL, List.map_append, paths_pre k p way, pathsL_pre ks p way]
end

theorem cb_strip (x y z : List UInt8) : Lib.compareBytes (x ++ y) (x ++ z) = Lib.compareBytes y z := by
  induction x with
  | nil => rfl
  | cons a x ih =>
    rw [List.cons_append, List.cons_append, compareBytes_cons]
    simp only [show ¬ a < a from UInt8.lt_irrefl a, if_false]
    exact ih

/-- Where neither goes on from the other, what stands behind does not matter. -/
theorem cb_app : ∀ (x y r s : List UInt8), (∀ z, y ≠ x ++ z) → (∀ z, x ≠ y ++ z) → Lib.compareBytes (x ++ r) (y ++ s) = Lib.compareBytes x y
  | [], y, _, _, h, _ => absurd rfl (h y)
  | x, [], _, _, _, h => absurd rfl (h x)
  | a :: x, b :: y, r, s, h1, h2 => by
    rw [List.cons_append, List.cons_append, compareBytes_cons, compareBytes_cons]
    by_cases hab : a < b
    · rw [if_pos hab, if_pos hab]
    · by_cases hba : b < a
      · rw [if_neg hab, if_neg hab, if_pos hba, if_pos hba]
      · rw [if_neg hab, if_neg hab, if_neg hba, if_neg hba]
        have e : a = b := by
          rcases u8_tri a b with h | h | h
          · exact absurd h hab
          · exact absurd h hba
          · exact h
        subst e
        exact cb_app x y r s (fun z hz => h1 z (by rw [hz]; rfl)) (fun z hz => h2 z (by rw [hz]; rfl))

/-- No tree's text goes on from another one's. -/
theorem text_prefix {t u : T} (ht : t.wf) (hu : u.wf) {z : List UInt8} (h : u.text = t.text ++ z) : t = u := by
  have h1 := rd_text t ht (t.nodes + u.nodes + 1) z (by omega)
  have h2 := rd_text u hu (t.nodes + u.nodes + 1) [] (by omega)
  rw [List.append_nil, h] at h2
  rw [h1] at h2
  simp only [Option.some.injEq, Prod.mk.injEq] at h2
  exact h2.1

theorem cb_tail {t u : T} (ht : t.wf) (hu : u.wf) (r : List UInt8) : Lib.compareBytes (t.text ++ r) (u.text ++ r) = Lib.compareBytes t.text u.text := by
  by_cases he : t = u
  · subst he
    rw [cb_strip]
    have h1 := cb_strip t.text [] []
    have h2 := cb_strip r [] []
    simp only [List.append_nil] at h1 h2
    rw [h1, h2]
  · exact cb_app _ _ r r (fun z hz => he (text_prefix ht hu hz)) (fun z hz => he (text_prefix hu ht hz).symm)

theorem word_zero {x y : List UInt8} (h : wordCmp x y = 0) : x = y := by
  unfold wordCmp at h
  rw [or2] at h
  split at h
  · exact cb_zero _ _ h
  · rename_i h0; exact absurd h h0

theorem cb_self (x : List UInt8) : Lib.compareBytes x x = 0 := isCmp_cb.self x
theorem word_self (x : List UInt8) : wordCmp x x = 0 := isCmp_word.self x

theorem word_pre (p x y : List UInt8) : wordCmp (p ++ x) (p ++ y) = wordCmp x y := by
  unfold wordCmp
  rw [or2, or2, cb_strip]
  have e : cmpI (((p ++ x).length : Nat) : Int) ((p ++ y).length : Nat) = cmpI (x.length : Nat) (y.length : Nat) := by
    simp only [List.length_append, cmpI]
    split <;> split <;> (try split) <;> (try split) <;> first | rfl | omega
  rw [e]

theorem cb_snoc : ∀ (x y : List UInt8) (b : UInt8), x.length = y.length → Lib.compareBytes (x ++ [b]) (y ++ [b]) = Lib.compareBytes x y
  | [], [], b, _ => cb_self [b]
  | [], y :: ys, _, h => by simp at h
  | x :: xs, [], _, h => by simp at h
  | x :: xs, y :: ys, b, h => by
    rw [List.cons_append, List.cons_append, compareBytes_cons, compareBytes_cons, cb_snoc xs ys b (by simpa using h)]

theorem word_snoc (x y : List UInt8) (b : UInt8) : wordCmp (x ++ [b]) (y ++ [b]) = wordCmp x y := by
  unfold wordCmp
  rw [or2, or2]
  have e : cmpI (((x ++ [b]).length : Nat) : Int) ((y ++ [b]).length : Nat) = cmpI (x.length : Nat) (y.length : Nat) := by
    simp only [List.length_append, List.length_cons, List.length_nil, cmpI]
    split <;> split <;> (try split) <;> (try split) <;> first | rfl | omega
  rw [e]
  split
  · rename_i h0
    have hl : x.length = y.length := by
      unfold cmpI at h0
      split at h0
      · omega
      · split at h0
        · omega
        · omega
    exact cb_snoc x y b hl
  · rfl

theorem row_pre (p : List UInt8) : ∀ (a b : List (List UInt8)), rowCmp (a.map (p ++ ·)) (b.map (p ++ ·)) = rowCmp a b
  | [], [] => rfl
  | [], _ :: _ => rfl
  | _ :: _, [] => rfl
  | x :: a, y :: b => by
    simp only [List.map_cons, rowCmp, word_pre]
    rw [row_pre p a b]

/-- The order, spelled out for trees of one number of leaves. -/
theorem ordT_same {t u : T} (hl : t.leaves = u.leaves) : ordT t u = if rowCmp (t.paths []) (u.paths []) = 0 then Lib.compareBytes t.text u.text else rowCmp (t.paths []) (u.paths []) := by
  unfold ordT ordCmp
  rw [or3, paths_length, paths_length, hl, cmpI_eq rfl, if_pos rfl]

/-- A tree behind a leaf. -/
theorem ord_right (c : UInt8) {t u : T} (ht : t.wf) (hu : u.wf) (hl : t.leaves = u.leaves) : ordT (.node c [.leaf, t]) (.node c [.leaf, u]) = ordT t u := by
  rw [ordT_same (by simp [T.leaves, T.leavesL, hl]), ordT_same hl]
  have e1 : ∀ v : T, (T.node c [.leaf, v]).paths [] = [c] :: (v.paths []).map ([c] ++ ·) := fun v => by
    have h := paths_pre v [c] []
    simp only [List.append_nil] at h
    simp only [T.paths, T.pathsL, List.nil_append, List.append_nil, List.singleton_append, h]
  have e2 : ∀ v : T, (T.node c [.leaf, v]).text = [40, c, 32, 42, 32] ++ (v.text ++ [41]) := fun v => by simp [T.text, T.textL]
  rw [e1, e1, e2, e2, cb_strip, cb_tail ht hu]
  rw [rowCmp, word_self, if_pos rfl, row_pre]

/-- The text ahead of the first leaf. -/
def preT : List UInt8 → List UInt8
  | [] => []
  | c :: p => 40 :: c :: 32 :: preT p

mutual
theorem fill_plain : ∀ (t : T) (us : List T), t.wf → (∀ j, j < t.leaves → us[j]? = some T.leaf) → t.fill us = t
  | .leaf, us, _, h => by
    have := h 0 (by simp [T.leaves])
    rw [T.fill]
    cases us with
    | nil => simp at this
    | cons u us => simp at this; rw [List.headD_cons, this]
  | .node c ks, us, hw, h => by
    rw [T.fill, fillL_plain ks us hw.2.2.2.2 (fun j hj => h j (by rw [T.leaves]; exact hj))]
theorem fillL_plain : ∀ (ks : List T) (us : List T), T.wfL ks → (∀ j, j < T.leavesL ks → us[j]? = some T.leaf) → T.fillL ks us = ks
  | [], us, _, _ => by rw [T.fillL]
  | k :: ks, us, hw, h => by
    rw [T.fillL, fill_plain k us hw.1 (fun j hj => h j (by rw [T.leavesL]; omega)), fillL_plain ks (us.drop k.leaves) hw.2 (fun j hj => by
      rw [List.getElem?_drop]
      exact h (k.leaves + j) (by rw [T.leavesL]; omega))]
end

/-- A tree, taken apart at its first leaf. -/
theorem first_leaf : ∀ (m : Nat) (t : T), SizeOf.sizeOf t ≤ m → t.wf → ∃ (p : List UInt8) (R : List UInt8 → List (List UInt8)) (sa : List UInt8),
    (∀ way, t.paths way = (way ++ p) :: R way) ∧ t.text = preT p ++ (42 :: sa) ∧
    ∀ (u : T) (us : List T), us[0]? = some u → (∀ j, 1 ≤ j → j < t.leaves → us[j]? = some T.leaf) → (∀ way, (t.fill us).paths way = u.paths (way ++ p) ++ R way) ∧ (t.fill us).text = preT p ++ (u.text ++ sa) := by
  intro m
  induction m with
  | zero => intro t h; cases t <;> simp at h
  | succ m ih =>
    intro t h hw
    cases t with
    | leaf =>
      refine ⟨[], fun _ => [], [], fun way => by simp [T.paths], by simp [T.text, preT], fun u us h0 _ => ?_⟩
      have e : T.leaf.fill us = u := by
        rw [T.fill]
        cases us with
        | nil => simp at h0
        | cons v us => simp at h0; rw [List.headD_cons, h0]
      exact ⟨fun way => by rw [e]; simp, by rw [e]; simp [preT]⟩
    | node c ks =>
      cases ks with
      | nil => have := hw.2.2.1; simp at this
      | cons k ks =>
        have hwk : k.wf ∧ T.wfL ks := hw.2.2.2.2
        have hsz : SizeOf.sizeOf k ≤ m := by simp at h; omega
        obtain ⟨p, R, sa, h1, h2, h3⟩ := ih k hsz hwk.1
        refine ⟨c :: p, fun way => R (way ++ [c]) ++ T.pathsL (way ++ [c]) ks, sa ++ (T.textL ks ++ [41]), fun way => ?_, ?_, fun u us h0 hj => ?_⟩
        · simp only [T.paths, T.pathsL, h1]
          simp
        · simp only [T.text, T.textL, h2, preT]
          simp
        · have hkl := leaves_pos k hwk.1
          obtain ⟨g1, g2⟩ := h3 u us h0 (fun j hj1 hj2 => hj j hj1 (by simp only [T.leaves, T.leavesL]; omega))
          have g3 : T.fillL ks (us.drop k.leaves) = ks := fillL_plain ks _ hwk.2 (fun j hjl => by
            rw [List.getElem?_drop]
            exact hj (k.leaves + j) (by omega) (by simp only [T.leaves, T.leavesL]; omega))
          constructor
          · intro way
            simp only [T.fill, T.fillL, T.paths, T.pathsL, g1, g3]
            simp
          · simp only [T.fill, T.fillL, T.text, T.textL, g2, g3, preT]
            simp

/-- Trees that get the same node at their first leaf. -/
theorem ord_left (b : UInt8) {t u : T} (ht : t.wf) (hu : u.wf) (hl : t.leaves = u.leaves) (hl2 : (t.fill (oneIn t.leaves 0 (.node b [.leaf, .leaf]))).leaves = (u.fill (oneIn u.leaves 0 (.node b [.leaf, .leaf]))).leaves) :
    ordT (t.fill (oneIn t.leaves 0 (.node b [.leaf, .leaf]))) (u.fill (oneIn u.leaves 0 (.node b [.leaf, .leaf]))) = ordT t u := by
  have hone : ∀ (v : T), v.wf → (oneIn v.leaves 0 (.node b [.leaf, .leaf]))[0]? = some (.node b [.leaf, .leaf]) ∧ ∀ j, 1 ≤ j → j < v.leaves → (oneIn v.leaves 0 (T.node b [.leaf, .leaf]))[j]? = some T.leaf := fun v hv => by
    have hp := leaves_pos v hv
    constructor
    · rw [List.getElem?_eq_getElem (by rw [oneIn_length]; omega), oneIn_get, if_pos rfl]
    · intro j hj1 hj2
      rw [List.getElem?_eq_getElem (by rw [oneIn_length]; omega), oneIn_get, if_neg (by omega)]
  obtain ⟨p, R, sa, h1, h2, h3⟩ := first_leaf _ t (Nat.le_refl _) ht
  obtain ⟨q, Q, sb, k1, k2, k3⟩ := first_leaf _ u (Nat.le_refl _) hu
  obtain ⟨a1, a2⟩ := h3 _ _ (hone t ht).1 (hone t ht).2
  obtain ⟨b1, b2⟩ := k3 _ _ (hone u hu).1 (hone u hu).2
  rw [ordT_same hl2, ordT_same hl, a1, b1, a2, b2, h1, k1, h2, k2]
  have e : ∀ w : List UInt8, (T.node b [.leaf, .leaf]).paths w = [w ++ [b], w ++ [b]] := fun w => by simp [T.paths, T.pathsL]
  rw [e, e]
  simp only [List.nil_append, List.cons_append, rowCmp, word_snoc]
  by_cases h0 : wordCmp p q = 0
  · have hpq := word_zero h0
    subst hpq
    simp only [h0, if_true]
    rw [cb_strip, cb_strip, cb_strip]
    have h5 := cb_strip [42] sa sb
    simp only [List.singleton_append] at h5
    rw [h5]
  · simp only [h0, if_false]

theorem fill_one_leaves {t u : T} (ht : t.wf) (hl : t.leaves = u.leaves) (hu : u.wf) (b : UInt8) : (t.fill (oneIn t.leaves 0 (.node b [.leaf, .leaf]))).leaves = (u.fill (oneIn u.leaves 0 (.node b [.leaf, .leaf]))).leaves := by
  have key : ∀ v : T, v.wf → (v.fill (oneIn v.leaves 0 (.node b [.leaf, .leaf]))).leaves = v.leaves + 1 := fun v hv => by
    obtain ⟨p, R, sa, h1, _, h3⟩ := first_leaf _ v (Nat.le_refl _) hv
    have hp := leaves_pos v hv
    obtain ⟨a1, _⟩ := h3 (.node b [.leaf, .leaf]) (oneIn v.leaves 0 (.node b [.leaf, .leaf])) (by rw [List.getElem?_eq_getElem (by rw [oneIn_length]; omega), oneIn_get, if_pos rfl]) (fun j hj1 hj2 => by rw [List.getElem?_eq_getElem (by rw [oneIn_length]; omega), oneIn_get, if_neg (by omega)])
    have l1 := congrArg List.length (h1 [])
    have l2 := congrArg List.length (a1 [])
    rw [paths_length] at l1 l2
    simp [paths_length, T.leaves, T.leavesL] at l1 l2
    omega
  rw [key t ht, key u hu, hl]

end Go.Proofs.YtdjcgakmeebijaaGreat
end
section
/- The order of trees is kept by grafting at any leaf, on both sides: what FnSumGraft's first tree wants. No walk here. -/
namespace Go.Proofs.YtdjcgakmeebijaaGreat

theorem c_not {c : UInt8} (h1 : 97 ≤ c.toNat) {b : UInt8} (hb : b.toNat < 97) : ¬ c = b := by
  intro h; subst h; omega

mutual
theorem text_counts : ∀ (t : T), t.wf → t.text.count 42 = t.leaves ∧ t.text.count 40 = t.text.count 41
  | .leaf, _ => by simp [T.text, T.leaves]
  | .node c ks, hw => by
    have h := textL_counts ks hw.2.2.2.2
    have h1 := c_not hw.1 (b := 40) (by decide)
    have h2 := c_not hw.1 (b := 41) (by decide)
    have h3 := c_not hw.1 (b := 42) (by decide)
    simp [T.text, T.leaves, List.count_append, h.1, h.2, h1, h2, h3]
theorem textL_counts : ∀ (ks : List T), T.wfL ks → (T.textL ks).count 42 = T.leavesL ks ∧ (T.textL ks).count 40 = (T.textL ks).count 41
  | [], _ => by simp [T.textL, T.leavesL]
  | k :: ks, hw => by
    have h := text_counts k hw.1
    have h' := textL_counts ks hw.2
    simp [T.textL, T.leavesL, List.count_append, h.1, h.2, h'.1, h'.2]
end

/-- A tree, or kids, taken apart at leaf k: the leaf's path, the paths ahead of it and behind it, the text ahead of it and behind it. -/
def At (e : Prop) (k n : Nat) (pa : List UInt8 → List (List UInt8)) (tx : List UInt8) (fp : List T → List UInt8 → List (List UInt8)) (ft : List T → List UInt8) : Prop :=
  ∃ (p : List UInt8) (A B : List UInt8 → List (List UInt8)) (P S : List UInt8), (∀ way, (A way).length = k) ∧ ((P = [] ∧ e) ∨ ∃ P0, P = P0 ++ [32]) ∧ P.count 42 = k ∧ P.count 40 = P.count 41 + p.length ∧
    (∀ way, pa way = A way ++ (way ++ p) :: B way) ∧ tx = P ++ 42 :: S ∧
    ∀ (u : T) (us : List T), us[k]? = some u → (∀ j, j ≠ k → j < n → us[j]? = some T.leaf) → (∀ way, fp us way = A way ++ (u.paths (way ++ p) ++ B way)) ∧ ft us = P ++ (u.text ++ S)

mutual
theorem at_t : ∀ (t : T) (k : Nat), t.wf → k < t.leaves → At True k t.leaves (fun way => t.paths way) t.text (fun us way => (t.fill us).paths way) (fun us => (t.fill us).text)
  | .leaf, k, _, h => by
    have hk : k = 0 := by simp [T.leaves] at h; exact h
    subst hk
    refine ⟨[], fun _ => [], fun _ => [], [], [], fun _ => rfl, .inl ⟨rfl, trivial⟩, rfl, rfl, fun way => by simp [T.paths], by simp [T.text], fun u us h0 _ => ?_⟩
    have e : T.leaf.fill us = u := by
      rw [T.fill]
      cases us with
      | nil => simp at h0
      | cons v us => simp at h0; rw [List.headD_cons, h0]
    exact ⟨fun way => by simp only [e]; simp, by simp only [e]; simp⟩
  | .node c ks, k, hw, h => by
    obtain ⟨p, A, B, P, S, h1, h2, h3, h4, h5, h6, h7⟩ := at_l ks k hw.2.2.2.2 (by simpa [T.leaves] using h)
    have g1 := c_not hw.1 (b := 40) (by decide)
    have g2 := c_not hw.1 (b := 41) (by decide)
    have g3 := c_not hw.1 (b := 42) (by decide)
    have h5' : ∀ way, T.pathsL way ks = A way ++ (way ++ p) :: B way := h5
    refine ⟨c :: p, fun way => A (way ++ [c]), fun way => B (way ++ [c]), 40 :: c :: P, S ++ [41], fun way => h1 _, ?_, ?_, ?_, fun way => ?_, ?_, fun u us h0 hj => ?_⟩
    · rcases h2 with ⟨_, h⟩ | ⟨P0, rfl⟩
      · exact h.elim
      · exact .inr ⟨40 :: c :: P0, rfl⟩
    · simp [g3, h3]
    · simp [g1, g2, h4]; omega
    · simp only [T.paths, h5']; simp
    · simp only [T.text, h6]; simp
    · obtain ⟨k1, k2⟩ := h7 u us h0 (fun j hj1 hj2 => hj j hj1 (by simpa [T.leaves] using hj2))
      have k1' : ∀ way, T.pathsL way (T.fillL ks us) = A way ++ (u.paths (way ++ p) ++ B way) := k1
      have k2' : T.textL (T.fillL ks us) = P ++ (u.text ++ S) := k2
      exact ⟨fun way => by simp only [T.fill, T.paths, k1']; simp, by simp only [T.fill, T.text, k2']; simp⟩
theorem at_l : ∀ (ks : List T) (k : Nat), T.wfL ks → k < T.leavesL ks → At False k (T.leavesL ks) (fun way => T.pathsL way ks) (T.textL ks) (fun us way => T.pathsL way (T.fillL ks us)) (fun us => T.textL (T.fillL ks us))
  | [], k, _, h => by simp [T.leavesL] at h
  | t :: ts, k, hw, h => by
    rw [T.leavesL] at h
    by_cases hk : k < t.leaves
    · obtain ⟨p, A, B, P, S, h1, h2, h3, h4, h5, h6, h7⟩ := at_t t k hw.1 hk
      have h5' : ∀ way, t.paths way = A way ++ (way ++ p) :: B way := h5
      refine ⟨p, A, fun way => B way ++ T.pathsL way ts, 32 :: P, S ++ T.textL ts, h1, ?_, ?_, ?_, fun way => ?_, ?_, fun u us h0 hj => ?_⟩
      · rcases h2 with ⟨rfl, _⟩ | ⟨P0, rfl⟩
        · exact .inr ⟨[], rfl⟩
        · exact .inr ⟨32 :: P0, rfl⟩
      · simp [h3]
      · simp [h4]
      · simp only [T.pathsL, h5']; simp
      · simp only [T.textL, h6]; simp
      · obtain ⟨k1, k2⟩ := h7 u us h0 (fun j hj1 hj2 => hj j hj1 (by rw [T.leavesL]; omega))
        have k1' : ∀ way, (t.fill us).paths way = A way ++ (u.paths (way ++ p) ++ B way) := k1
        have k2' : (t.fill us).text = P ++ (u.text ++ S) := k2
        have k3 : T.fillL ts (us.drop t.leaves) = ts := fillL_plain ts _ hw.2 (fun j hjl => by
          rw [List.getElem?_drop]
          exact hj (t.leaves + j) (by omega) (by rw [T.leavesL]; omega))
        exact ⟨fun way => by simp only [T.fillL, T.pathsL, k1', k3]; simp, by simp only [T.fillL, T.textL, k2', k3]; simp⟩
    · obtain ⟨p, A, B, P, S, h1, h2, h3, h4, h5, h6, h7⟩ := at_l ts (k - t.leaves) hw.2 (by omega)
      have h5' : ∀ way, T.pathsL way ts = A way ++ (way ++ p) :: B way := h5
      obtain ⟨c1, c2⟩ := text_counts t hw.1
      refine ⟨p, fun way => t.paths way ++ A way, B, 32 :: (t.text ++ P), S, fun way => ?_, ?_, ?_, ?_, fun way => ?_, ?_, fun u us h0 hj => ?_⟩
      · rw [List.length_append, paths_length, h1]; omega
      · rcases h2 with ⟨_, h⟩ | ⟨P0, rfl⟩
        · exact h.elim
        · exact .inr ⟨32 :: (t.text ++ P0), by simp⟩
      · simp [List.count_append, c1, h3]; omega
      · simp [List.count_append, c2, h4]; omega
      · simp only [T.pathsL, h5']; simp
      · simp only [T.textL, h6]; simp
      · obtain ⟨k1, k2⟩ := h7 u (us.drop t.leaves) (by rw [List.getElem?_drop, show t.leaves + (k - t.leaves) = k from by omega]; exact h0) (fun j hj1 hj2 => by
          rw [List.getElem?_drop]
          exact hj (t.leaves + j) (by omega) (by rw [T.leavesL]; omega))
        have k1' : ∀ way, T.pathsL way (T.fillL ts (us.drop t.leaves)) = A way ++ (u.paths (way ++ p) ++ B way) := k1
        have k2' : T.textL (T.fillL ts (us.drop t.leaves)) = P ++ (u.text ++ S) := k2
        have k3 : t.fill us = t := fill_plain t us hw.1 (fun j hjl => hj j (by omega) (by rw [T.leavesL]; omega))
        exact ⟨fun way => by simp only [T.fillL, T.pathsL, k1', k3]; simp, by simp only [T.fillL, T.textL, k2', k3]; simp⟩
end

/-- What may stand behind what in a tree's text: behind a blank a tree begins; a node ends behind a tree. -/
def okTwo (x y : UInt8) : Prop := (x = 32 → y = 40 ∨ y = 42) ∧ (y = 41 → x = 42 ∨ x = 41)
def Adj : UInt8 → List UInt8 → Prop
  | _, [] => True
  | x, y :: l => okTwo x y ∧ Adj y l

mutual
theorem adj_t : ∀ (t : T) (r : List UInt8), t.wf → (∀ e, e = 42 ∨ e = 41 → Adj e r) → Adj 32 (t.text ++ r)
  | .leaf, r, _, h => by
    have e : T.leaf.text ++ r = 42 :: r := by simp [T.text]
    rw [e]
    exact ⟨⟨fun _ => .inr rfl, fun h => absurd h (by decide)⟩, h 42 (.inl rfl)⟩
  | .node c ks, r, hw, h => by
    have g2 := c_not hw.1 (b := 41) (by decide)
    have g3 := c_not hw.1 (b := 32) (by decide)
    have e : (T.node c ks).text ++ r = 40 :: c :: (T.textL ks ++ 41 :: r) := by simp [T.text]
    rw [e]
    refine ⟨⟨fun _ => .inl rfl, fun h => absurd h (by decide)⟩, ⟨⟨fun h => absurd h (by decide), fun h => absurd h g2⟩, ?_⟩⟩
    exact adj_l ks (41 :: r) c hw.2.2.2.2 (by rintro rfl; have := hw.2.2.1; simp at this) g3 (fun e he => ⟨⟨by rintro rfl; simp at he, fun _ => he⟩, h 41 (.inr rfl)⟩)
theorem adj_l : ∀ (ks : List T) (r : List UInt8) (x : UInt8), T.wfL ks → ks ≠ [] → ¬ x = 32 → (∀ e, e = 42 ∨ e = 41 → Adj e r) → Adj x (T.textL ks ++ r)
  | [], _, _, _, h, _, _ => absurd rfl h
  | t :: ts, r, x, hw, _, hx, h => by
    rw [show T.textL (t :: ts) ++ r = 32 :: (t.text ++ (T.textL ts ++ r)) by simp [T.textL]]
    refine ⟨⟨fun e => absurd e hx, fun h => absurd h (by decide)⟩, ?_⟩
    refine adj_t t _ hw.1 (fun e he => ?_)
    cases ts with
    | nil => rw [T.textL]; exact h e he
    | cons t' ts' => exact adj_l (t' :: ts') r e hw.2 (by simp) (by rintro rfl; simp at he) h
end

theorem adj_drop : ∀ (P : List UInt8) (x b : UInt8) (l : List UInt8), Adj x (P ++ [b] ++ l) → Adj b l
  | [], _, _, _, h => h.2
  | _ :: P, _, b, l, h => adj_drop P _ b l h.2

theorem adj_close : ∀ (l r : List UInt8) (x : UInt8), Adj x (l ++ r) → ¬ x = 42 → ¬ x = 41 → l.count 42 = 0 → l.count 41 = 0
  | [], _, _, _, _, _, _ => rfl
  | y :: l, r, x, h, h1, h2, hc => by
    have hy : ¬ y = 42 := by rintro rfl; simp at hc
    have hy2 : ¬ y = 41 := fun e => by rcases h.1.2 e with h | h <;> contradiction
    have hc2 : l.count 42 = 0 := by simpa [hy] using hc
    have := adj_close l r y h.2 hy hy2 hc2
    simp [hy2, this]

/-- The texts ahead of two leaves of one number and one depth: none goes on from the other. -/
theorem pre_stop {P z S' : List UInt8} {k d : Nat} (ha : Adj 32 (P ++ z ++ 42 :: S')) (hP : (P = [] ∧ True) ∨ ∃ P0, P = P0 ++ [32]) (h1 : P.count 42 = k) (h2 : P.count 40 = P.count 41 + d)
    (h3 : (P ++ z).count 42 = k) (h4 : (P ++ z).count 40 = (P ++ z).count 41 + d) : z = [] := by
  have hz : Adj 32 (z ++ 42 :: S') := by
    rw [List.append_assoc] at ha
    rcases hP with ⟨rfl, _⟩ | ⟨P0, rfl⟩
    · exact ha
    · exact adj_drop P0 32 32 _ ha
  rw [List.count_append] at h3 h4
  rw [List.count_append] at h4
  have h5 : z.count 42 = 0 := by omega
  have h6 := adj_close z _ 32 hz (by decide) (by decide) h5
  have h7 : z.count 40 = 0 := by omega
  cases z with
  | nil => rfl
  | cons y z =>
    rcases hz.1.1 rfl with e | e
    · subst e; simp at h7
    · subst e; simp at h5

theorem row_app : ∀ (a a' x y : List (List UInt8)), a.length = a'.length → rowCmp (a ++ x) (a' ++ y) = if rowCmp a a' = 0 then rowCmp x y else rowCmp a a'
  | [], [], x, y, _ => by simp [rowCmp]
  | [], _ :: _, _, _, h => by simp at h
  | _ :: _, [], _, _, h => by simp at h
  | w :: a, w' :: a', x, y, h => by
    simp only [List.cons_append, rowCmp]
    rw [row_app a a' x y (by simpa using h)]
    by_cases h0 : wordCmp w w' = 0
    · simp only [h0, if_true]
    · simp only [h0, if_false]

theorem row_self : ∀ (a : List (List UInt8)), rowCmp a a = 0
  | [] => rfl
  | w :: a => by rw [rowCmp, word_self, if_pos rfl, row_self a]

theorem row_zero : ∀ (a b : List (List UInt8)), a.length = b.length → rowCmp a b = 0 → a = b
  | [], [], _, _ => rfl
  | [], _ :: _, h, _ => by simp at h
  | _ :: _, [], h, _ => by simp at h
  | x :: a, y :: b, h, h0 => by
    rw [rowCmp] at h0
    by_cases hw : wordCmp x y = 0
    · rw [if_pos hw] at h0
      rw [word_zero hw, row_zero a b (by simpa using h) h0]
    · rw [if_neg hw] at h0; exact absurd h0 hw

theorem word_post : ∀ (q x y : List UInt8), wordCmp (x ++ q) (y ++ q) = wordCmp x y
  | [], x, y => by rw [List.append_nil, List.append_nil]
  | b :: q, x, y => by
    have h := word_post q (x ++ [b]) (y ++ [b])
    rw [List.append_assoc, List.append_assoc] at h
    rw [word_snoc] at h
    exact h

theorem one_is {n k : Nat} {u : T} (hk : k < n) : (oneIn n k u)[k]? = some u ∧ ∀ j, j ≠ k → j < n → (oneIn n k u)[j]? = some T.leaf := by
  constructor
  · rw [List.getElem?_eq_getElem (by rw [oneIn_length]; omega), oneIn_get, if_pos rfl]
  · intro j h1 h2
    rw [List.getElem?_eq_getElem (by rw [oneIn_length]; omega), oneIn_get, if_neg (fun h => h1 h.symm)]

theorem grf_leaves1 {k : Nat} {t u : T} (ht : t.wf) (hk : k < t.leaves) : (t.fill (oneIn t.leaves k u)).leaves + 1 = t.leaves + u.leaves := by
  obtain ⟨p, A, B, P, S, h1, _, _, _, h5, _, h7⟩ := at_t t k ht hk
  obtain ⟨a1, _⟩ := h7 u _ (one_is hk).1 (one_is hk).2
  have l1 := congrArg List.length (h5 [])
  have l2 := congrArg List.length (a1 [])
  simp only [paths_length, List.length_append, List.length_cons, h1] at l1 l2
  omega

/-- The same tree grafted at the same leaf of two trees. -/
theorem ord_graft_l {k : Nat} {t t' u : T} (ht : t.wf) (ht' : t'.wf) (huw : u.wf) (hl : t.leaves = t'.leaves) (hk : k < t.leaves) : ordT (t.fill (oneIn t.leaves k u)) (t'.fill (oneIn t'.leaves k u)) = ordT t t' := by
  have e1 := grf_leaves1 (u := u) ht hk
  have e2 := grf_leaves1 (u := u) ht' (k := k) (by omega)
  rw [ordT_same (by omega), ordT_same hl]
  obtain ⟨p, A, B, P, S, h1, h2, h3, h4, h5, h6, h7⟩ := at_t t k ht hk
  obtain ⟨p', A', B', P', S', k1, k2, k3, k4, k5, k6, k7⟩ := at_t t' k ht' (by omega)
  obtain ⟨a1, a2⟩ := h7 u _ (one_is hk).1 (one_is hk).2
  obtain ⟨b1, b2⟩ := k7 u _ (one_is (n := t'.leaves) (by omega)).1 (one_is (n := t'.leaves) (by omega)).2
  have f1 : (t.fill (oneIn t.leaves k u)).paths [] = A [] ++ (u.paths ([] ++ p) ++ B []) := a1 []
  have f2 : (t'.fill (oneIn t'.leaves k u)).paths [] = A' [] ++ (u.paths ([] ++ p') ++ B' []) := b1 []
  have f3 : (t.fill (oneIn t.leaves k u)).text = P ++ (u.text ++ S) := a2
  have f4 : (t'.fill (oneIn t'.leaves k u)).text = P' ++ (u.text ++ S') := b2
  have f5 : t.paths [] = A [] ++ ([] ++ p) :: B [] := h5 []
  have f6 : t'.paths [] = A' [] ++ ([] ++ p') :: B' [] := k5 []
  rw [List.nil_append] at f1 f2 f5 f6
  have hp : ∀ q, u.paths q = (u.paths []).map (q ++ ·) := fun q => by
    have := paths_pre u q []
    rwa [List.append_nil] at this
  have hlen : (A []).length = (A' []).length := by rw [h1, k1]
  have hrow : rowCmp ((t.fill (oneIn t.leaves k u)).paths []) ((t'.fill (oneIn t'.leaves k u)).paths []) = rowCmp (t.paths []) (t'.paths []) := by
    rw [f1, f2, f5, f6, row_app _ _ _ _ hlen, row_app _ _ _ _ hlen]
    by_cases h0 : rowCmp (A []) (A' []) = 0
    · rw [if_pos h0, if_pos h0]
      have hb : (B []).length = (B' []).length := by
        have l1 := congrArg List.length f5
        have l2 := congrArg List.length f6
        simp only [paths_length, List.length_append, List.length_cons] at l1 l2
        omega
      by_cases hpp : wordCmp p p' = 0
      · have := word_zero hpp
        subst this
        rw [row_app _ _ _ _ rfl, row_self, if_pos rfl, rowCmp, hpp, if_pos rfl]
      · rw [rowCmp, if_neg hpp, hp p, hp p']
        have hne : (u.paths []).length = u.leaves := paths_length u []
        cases hu : u.paths [] with
        | nil => rw [hu] at hne; have := leaves_pos u huw; simp at hne; omega
        | cons q qs =>
          simp only [List.map_cons, List.cons_append, rowCmp, word_post, hpp, if_false]
    · rw [if_neg h0, if_neg h0]
  rw [hrow]
  by_cases h0 : rowCmp (t.paths []) (t'.paths []) = 0
  · rw [if_pos h0, if_pos h0, f3, f4, h6, k6]
    have hpe := row_zero _ _ (by rw [paths_length, paths_length, hl]) h0
    rw [f5, f6] at hpe
    have hAB := List.append_inj hpe hlen
    have hpp : p = p' := by have := hAB.2; simp at this; exact this.1
    subst hpp
    by_cases hPP : P = P'
    · subst hPP
      rw [cb_strip, cb_strip, cb_strip]
      have := cb_strip [42] S S'
      simp only [List.singleton_append] at this
      rw [this]
    · have adj : ∀ v : T, v.wf → Adj 32 v.text := fun v hv => by
        have := adj_t v [] hv (fun e _ => trivial)
        rwa [List.append_nil] at this
      have n1 : ∀ z, P' ≠ P ++ z := fun z hz => hPP (by
        have := pre_stop (z := z) (S' := S') (by have h := adj t' ht'; rw [k6, hz] at h; exact h) h2 h3 h4 (by rw [← hz]; exact k3) (by rw [← hz]; exact k4)
        rw [hz, this, List.append_nil])
      have n2 : ∀ z, P ≠ P' ++ z := fun z hz => hPP (by
        have := pre_stop (z := z) (S' := S) (by have h := adj t ht; rw [h6, hz] at h; exact h) k2 k3 k4 (by rw [← hz]; exact h3) (by rw [← hz]; exact h4)
        rw [hz, this, List.append_nil])
      rw [cb_app P P' _ _ n1 n2, cb_app P P' _ _ n1 n2]
  · rw [if_neg h0, if_neg h0]

/-- Two trees grafted at the same leaf of one tree. -/
theorem ord_graft_r {k : Nat} {t u u' : T} (ht : t.wf) (hu : u.wf) (hu' : u'.wf) (hl : u.leaves = u'.leaves) (hk : k < t.leaves) : ordT (t.fill (oneIn t.leaves k u)) (t.fill (oneIn t.leaves k u')) = ordT u u' := by
  have e1 := grf_leaves1 (u := u) ht hk
  have e2 := grf_leaves1 (u := u') ht hk
  rw [ordT_same (by omega), ordT_same hl]
  obtain ⟨p, A, B, P, S, h1, h2, h3, h4, h5, h6, h7⟩ := at_t t k ht hk
  obtain ⟨a1, a2⟩ := h7 u _ (one_is hk).1 (one_is hk).2
  obtain ⟨b1, b2⟩ := h7 u' _ (one_is hk).1 (one_is hk).2
  have f1 : (t.fill (oneIn t.leaves k u)).paths [] = A [] ++ (u.paths ([] ++ p) ++ B []) := a1 []
  have f2 : (t.fill (oneIn t.leaves k u')).paths [] = A [] ++ (u'.paths ([] ++ p) ++ B []) := b1 []
  have f3 : (t.fill (oneIn t.leaves k u)).text = P ++ (u.text ++ S) := a2
  have f4 : (t.fill (oneIn t.leaves k u')).text = P ++ (u'.text ++ S) := b2
  rw [List.nil_append] at f1 f2
  have hp : ∀ v : T, v.paths p = (v.paths []).map (p ++ ·) := fun v => by
    have := paths_pre v p []
    rwa [List.append_nil] at this
  have hrow : rowCmp ((t.fill (oneIn t.leaves k u)).paths []) ((t.fill (oneIn t.leaves k u')).paths []) = rowCmp (u.paths []) (u'.paths []) := by
    rw [f1, f2, row_app _ _ _ _ rfl, row_self, if_pos rfl, row_app _ _ _ _ (by rw [paths_length, paths_length, hl]), hp u, hp u', row_pre, row_self]
    by_cases h0 : rowCmp (u.paths []) (u'.paths []) = 0
    · rw [if_pos h0, h0]
    · rw [if_neg h0]
  rw [hrow, f3, f4, cb_strip, cb_tail hu hu']

end Go.Proofs.YtdjcgakmeebijaaGreat
end
