/- The order of trees is kept by grafting: what FnOrder says, as mathematics. No walk here. -/
import Derived.Test.YtipodlckehodnaaSumM
import Derived.Test.YtipodlckehodnaaKOrdI
import Derived.Test.YtipodlckehodnaaLawGraft
namespace Go.Proofs.Ytipodlckehodnaa

mutual
theorem paths_pre : ∀ (t : T) (p way : List UInt8), t.paths (p ++ way) = (t.paths way).map (p ++ ·)
  | .leaf, p, way => by simp [T.paths]
  | .node c ks, p, way => by
    rw [T.paths, T.paths, List.append_assoc]
    exact pathsL_pre ks p (way ++ [c])
theorem pathsL_pre : ∀ (ks : List T) (p way : List UInt8), T.pathsL (p ++ way) ks = (T.pathsL way ks).map (p ++ ·)
  | [], p, way => by simp [T.pathsL]
  | k :: ks, p, way => by
    rw [T.pathsL, T.pathsL, List.map_append, paths_pre k p way, pathsL_pre ks p way]
end

theorem cb_strip (x y z : List UInt8) : Lib.compareBytes (x ++ y) (x ++ z) = Lib.compareBytes y z := by
  induction x with
  | nil => rfl
  | cons a x ih =>
    rw [List.cons_append, List.cons_append, compareBytes_cons]
    simp only [show ¬ a < a from UInt8.lt_irrefl a, if_false]
    exact ih

/-- Where neither goes on from the other, what stands behind does not matter. -/
theorem cb_app : ∀ (x y r s : List UInt8), (∀ z, y ≠ x ++ z) → (∀ z, x ≠ y ++ z) → Lib.compareBytes (x ++ r) (y ++ s) = Lib.compareBytes x y
  | [], y, _, _, h, _ => absurd rfl (h y)
  | x, [], _, _, _, h => absurd rfl (h x)
  | a :: x, b :: y, r, s, h1, h2 => by
    rw [List.cons_append, List.cons_append, compareBytes_cons, compareBytes_cons]
    by_cases hab : a < b
    · rw [if_pos hab, if_pos hab]
    · by_cases hba : b < a
      · rw [if_neg hab, if_neg hab, if_pos hba, if_pos hba]
      · rw [if_neg hab, if_neg hab, if_neg hba, if_neg hba]
        have e : a = b := by
          rcases u8_tri a b with h | h | h
          · exact absurd h hab
          · exact absurd h hba
          · exact h
        subst e
        exact cb_app x y r s (fun z hz => h1 z (by rw [hz]; rfl)) (fun z hz => h2 z (by rw [hz]; rfl))

/-- No tree's text goes on from another one's. -/
theorem text_prefix {t u : T} (ht : t.wf) (hu : u.wf) {z : List UInt8} (h : u.text = t.text ++ z) : t = u := by
  have h1 := rd_text t ht (t.nodes + u.nodes + 1) z (by omega)
  have h2 := rd_text u hu (t.nodes + u.nodes + 1) [] (by omega)
  rw [List.append_nil, h] at h2
  rw [h1] at h2
  simp only [Option.some.injEq, Prod.mk.injEq] at h2
  exact h2.1

theorem cb_tail {t u : T} (ht : t.wf) (hu : u.wf) (r : List UInt8) : Lib.compareBytes (t.text ++ r) (u.text ++ r) = Lib.compareBytes t.text u.text := by
  by_cases he : t = u
  · subst he
    rw [cb_strip]
    have h1 := cb_strip t.text [] []
    have h2 := cb_strip r [] []
    simp only [List.append_nil] at h1 h2
    rw [h1, h2]
  · exact cb_app _ _ r r (fun z hz => he (text_prefix ht hu hz)) (fun z hz => he (text_prefix hu ht hz).symm)

theorem word_zero {x y : List UInt8} (h : wordCmp x y = 0) : x = y := by
  unfold wordCmp at h
  rw [or2] at h
  split at h
  · exact cb_zero _ _ h
  · rename_i h0; exact absurd h h0

theorem cb_self (x : List UInt8) : Lib.compareBytes x x = 0 := isCmp_cb.self x
theorem word_self (x : List UInt8) : wordCmp x x = 0 := isCmp_word.self x

theorem word_pre (p x y : List UInt8) : wordCmp (p ++ x) (p ++ y) = wordCmp x y := by
  unfold wordCmp
  rw [or2, or2, cb_strip]
  have e : cmpI (((p ++ x).length : Nat) : Int) ((p ++ y).length : Nat) = cmpI (x.length : Nat) (y.length : Nat) := by
    simp only [List.length_append, cmpI]
    split <;> split <;> (try split) <;> (try split) <;> first | rfl | omega
  rw [e]

theorem cb_snoc : ∀ (x y : List UInt8) (b : UInt8), x.length = y.length → Lib.compareBytes (x ++ [b]) (y ++ [b]) = Lib.compareBytes x y
  | [], [], b, _ => cb_self [b]
  | [], y :: ys, _, h => by simp at h
  | x :: xs, [], _, h => by simp at h
  | x :: xs, y :: ys, b, h => by
    rw [List.cons_append, List.cons_append, compareBytes_cons, compareBytes_cons, cb_snoc xs ys b (by simpa using h)]

theorem word_snoc (x y : List UInt8) (b : UInt8) : wordCmp (x ++ [b]) (y ++ [b]) = wordCmp x y := by
  unfold wordCmp
  rw [or2, or2]
  have e : cmpI (((x ++ [b]).length : Nat) : Int) ((y ++ [b]).length : Nat) = cmpI (x.length : Nat) (y.length : Nat) := by
    simp only [List.length_append, List.length_cons, List.length_nil, cmpI]
    split <;> split <;> (try split) <;> (try split) <;> first | rfl | omega
  rw [e]
  split
  · rename_i h0
    have hl : x.length = y.length := by
      unfold cmpI at h0
      split at h0
      · omega
      · split at h0
        · omega
        · omega
    exact cb_snoc x y b hl
  · rfl

theorem row_pre (p : List UInt8) : ∀ (a b : List (List UInt8)), rowCmp (a.map (p ++ ·)) (b.map (p ++ ·)) = rowCmp a b
  | [], [] => rfl
  | [], _ :: _ => rfl
  | _ :: _, [] => rfl
  | x :: a, y :: b => by
    simp only [List.map_cons, rowCmp, word_pre]
    rw [row_pre p a b]

/-- The order, spelled out for trees of one number of leaves. -/
theorem ordT_same {t u : T} (hl : t.leaves = u.leaves) : ordT t u = if rowCmp (t.paths []) (u.paths []) = 0 then Lib.compareBytes t.text u.text else rowCmp (t.paths []) (u.paths []) := by
  unfold ordT ordCmp
  rw [or3, paths_length, paths_length, hl, cmpI_eq rfl, if_pos rfl]

/-- A tree behind a leaf. -/
theorem ord_right (c : UInt8) {t u : T} (ht : t.wf) (hu : u.wf) (hl : t.leaves = u.leaves) : ordT (.node c [.leaf, t]) (.node c [.leaf, u]) = ordT t u := by
  rw [ordT_same (by simp [T.leaves, T.leavesL, hl]), ordT_same hl]
  have e1 : ∀ v : T, (T.node c [.leaf, v]).paths [] = [c] :: (v.paths []).map ([c] ++ ·) := fun v => by
    have h := paths_pre v [c] []
    simp only [List.append_nil] at h
    simp only [T.paths, T.pathsL, List.nil_append, List.append_nil, List.singleton_append, h]
  have e2 : ∀ v : T, (T.node c [.leaf, v]).text = [40, c, 32, 42, 32] ++ (v.text ++ [41]) := fun v => by simp [T.text, T.textL]
  rw [e1, e1, e2, e2, cb_strip, cb_tail ht hu]
  rw [rowCmp, word_self, if_pos rfl, row_pre]

/-- The text ahead of the first leaf. -/
def preT : List UInt8 → List UInt8
  | [] => []
  | c :: p => 40 :: c :: 32 :: preT p

mutual
theorem fill_plain : ∀ (t : T) (us : List T), t.wf → (∀ j, j < t.leaves → us[j]? = some T.leaf) → t.fill us = t
  | .leaf, us, _, h => by
    have := h 0 (by simp [T.leaves])
    rw [T.fill]
    cases us with
    | nil => simp at this
    | cons u us => simp at this; rw [List.headD_cons, this]
  | .node c ks, us, hw, h => by
    rw [T.fill, fillL_plain ks us hw.2.2.2.2 (fun j hj => h j (by rw [T.leaves]; exact hj))]
theorem fillL_plain : ∀ (ks : List T) (us : List T), T.wfL ks → (∀ j, j < T.leavesL ks → us[j]? = some T.leaf) → T.fillL ks us = ks
  | [], us, _, _ => by rw [T.fillL]
  | k :: ks, us, hw, h => by
    rw [T.fillL, fill_plain k us hw.1 (fun j hj => h j (by rw [T.leavesL]; omega)), fillL_plain ks (us.drop k.leaves) hw.2 (fun j hj => by
      rw [List.getElem?_drop]
      exact h (k.leaves + j) (by rw [T.leavesL]; omega))]
end

/-- A tree, taken apart at its first leaf. -/
theorem first_leaf : ∀ (m : Nat) (t : T), SizeOf.sizeOf t ≤ m → t.wf → ∃ (p : List UInt8) (R : List UInt8 → List (List UInt8)) (sa : List UInt8),
    (∀ way, t.paths way = (way ++ p) :: R way) ∧ t.text = preT p ++ (42 :: sa) ∧
    ∀ (u : T) (us : List T), us[0]? = some u → (∀ j, 1 ≤ j → j < t.leaves → us[j]? = some T.leaf) → (∀ way, (t.fill us).paths way = u.paths (way ++ p) ++ R way) ∧ (t.fill us).text = preT p ++ (u.text ++ sa) := by
  intro m
  induction m with
  | zero => intro t h; cases t <;> simp at h
  | succ m ih =>
    intro t h hw
    cases t with
    | leaf =>
      refine ⟨[], fun _ => [], [], fun way => by simp [T.paths], by simp [T.text, preT], fun u us h0 _ => ?_⟩
      have e : T.leaf.fill us = u := by
        rw [T.fill]
        cases us with
        | nil => simp at h0
        | cons v us => simp at h0; rw [List.headD_cons, h0]
      exact ⟨fun way => by rw [e]; simp, by rw [e]; simp [preT]⟩
    | node c ks =>
      cases ks with
      | nil => have := hw.2.2.1; simp at this
      | cons k ks =>
        have hwk : k.wf ∧ T.wfL ks := hw.2.2.2.2
        have hsz : SizeOf.sizeOf k ≤ m := by simp at h; omega
        obtain ⟨p, R, sa, h1, h2, h3⟩ := ih k hsz hwk.1
        refine ⟨c :: p, fun way => R (way ++ [c]) ++ T.pathsL (way ++ [c]) ks, sa ++ (T.textL ks ++ [41]), fun way => ?_, ?_, fun u us h0 hj => ?_⟩
        · simp only [T.paths, T.pathsL, h1]
          simp
        · simp only [T.text, T.textL, h2, preT]
          simp
        · have hkl := leaves_pos k hwk.1
          obtain ⟨g1, g2⟩ := h3 u us h0 (fun j hj1 hj2 => hj j hj1 (by simp only [T.leaves, T.leavesL]; omega))
          have g3 : T.fillL ks (us.drop k.leaves) = ks := fillL_plain ks _ hwk.2 (fun j hjl => by
            rw [List.getElem?_drop]
            exact hj (k.leaves + j) (by omega) (by simp only [T.leaves, T.leavesL]; omega))
          constructor
          · intro way
            simp only [T.fill, T.fillL, T.paths, T.pathsL, g1, g3]
            simp
          · simp only [T.fill, T.fillL, T.text, T.textL, g2, g3, preT]
            simp

/-- Trees that get the same node at their first leaf. -/
theorem ord_left (b : UInt8) {t u : T} (ht : t.wf) (hu : u.wf) (hl : t.leaves = u.leaves) (hl2 : (t.fill (oneIn t.leaves 0 (.node b [.leaf, .leaf]))).leaves = (u.fill (oneIn u.leaves 0 (.node b [.leaf, .leaf]))).leaves) :
    ordT (t.fill (oneIn t.leaves 0 (.node b [.leaf, .leaf]))) (u.fill (oneIn u.leaves 0 (.node b [.leaf, .leaf]))) = ordT t u := by
  have hone : ∀ (v : T), v.wf → (oneIn v.leaves 0 (.node b [.leaf, .leaf]))[0]? = some (.node b [.leaf, .leaf]) ∧ ∀ j, 1 ≤ j → j < v.leaves → (oneIn v.leaves 0 (T.node b [.leaf, .leaf]))[j]? = some T.leaf := fun v hv => by
    have hp := leaves_pos v hv
    constructor
    · rw [List.getElem?_eq_getElem (by rw [oneIn_length]; omega), oneIn_get, if_pos rfl]
    · intro j hj1 hj2
      rw [List.getElem?_eq_getElem (by rw [oneIn_length]; omega), oneIn_get, if_neg (by omega)]
  obtain ⟨p, R, sa, h1, h2, h3⟩ := first_leaf _ t (Nat.le_refl _) ht
  obtain ⟨q, Q, sb, k1, k2, k3⟩ := first_leaf _ u (Nat.le_refl _) hu
  obtain ⟨a1, a2⟩ := h3 _ _ (hone t ht).1 (hone t ht).2
  obtain ⟨b1, b2⟩ := k3 _ _ (hone u hu).1 (hone u hu).2
  rw [ordT_same hl2, ordT_same hl, a1, b1, a2, b2, h1, k1, h2, k2]
  have e : ∀ w : List UInt8, (T.node b [.leaf, .leaf]).paths w = [w ++ [b], w ++ [b]] := fun w => by simp [T.paths, T.pathsL]
  rw [e, e]
  simp only [List.nil_append, List.cons_append, rowCmp, word_snoc]
  by_cases h0 : wordCmp p q = 0
  · have hpq := word_zero h0
    subst hpq
    simp only [h0, if_true]
    rw [cb_strip, cb_strip, cb_strip]
    have h5 := cb_strip [42] sa sb
    simp only [List.singleton_append] at h5
    rw [h5]
  · simp only [h0, if_false]

theorem fill_one_leaves {t u : T} (ht : t.wf) (hl : t.leaves = u.leaves) (hu : u.wf) (b : UInt8) : (t.fill (oneIn t.leaves 0 (.node b [.leaf, .leaf]))).leaves = (u.fill (oneIn u.leaves 0 (.node b [.leaf, .leaf]))).leaves := by
  have key : ∀ v : T, v.wf → (v.fill (oneIn v.leaves 0 (.node b [.leaf, .leaf]))).leaves = v.leaves + 1 := fun v hv => by
    obtain ⟨p, R, sa, h1, _, h3⟩ := first_leaf _ v (Nat.le_refl _) hv
    have hp := leaves_pos v hv
    obtain ⟨a1, _⟩ := h3 (.node b [.leaf, .leaf]) (oneIn v.leaves 0 (.node b [.leaf, .leaf])) (by rw [List.getElem?_eq_getElem (by rw [oneIn_length]; omega), oneIn_get, if_pos rfl]) (fun j hj1 hj2 => by rw [List.getElem?_eq_getElem (by rw [oneIn_length]; omega), oneIn_get, if_neg (by omega)])
    have l1 := congrArg List.length (h1 [])
    have l2 := congrArg List.length (a1 [])
    rw [paths_length] at l1 l2
    simp [paths_length, T.leaves, T.leavesL] at l1 l2
    omega
  rw [key t ht, key u hu, hl]

end Go.Proofs.Ytipodlckehodnaa
