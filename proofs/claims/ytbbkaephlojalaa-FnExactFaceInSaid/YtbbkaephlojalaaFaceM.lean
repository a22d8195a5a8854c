/- Faces as mathematics: nodes of one letter with two trees at least, the leaves below each node, splitting a node. No walk. -/
import Derived.Test.YtbbkaephlojalaaKPartS
namespace Go.Proofs.Ytbbkaephlojalaa

mutual
/-- Every node has the letter 'a' and two trees at least. -/
def T.fc : T → Prop
  | .leaf => True
  | .node c ks => c = 97 ∧ 2 ≤ ks.length ∧ T.fcL ks
def T.fcL : List T → Prop
  | [] => True
  | k :: ks => k.fc ∧ T.fcL ks
end

mutual
/-- The sum of all degrees. -/
def T.dim : T → Int
  | .leaf => 0
  | .node _ ks => (ks.length : Int) - 2 + T.dimL ks
def T.dimL : List T → Int
  | [] => 0
  | k :: ks => k.dim + T.dimL ks
end

mutual
/-- The leaves below each node: from the first one to behind the last one. -/
def T.runs : Nat → T → List (Nat × Nat)
  | _, .leaf => []
  | a, .node _ ks => (a, a + T.leavesL ks) :: T.runsL a ks
def T.runsL : Nat → List T → List (Nat × Nat)
  | _, [] => []
  | a, k :: ks => k.runs a ++ T.runsL (a + k.leaves) ks
end

theorem fcL_append (a b : List T) : T.fcL (a ++ b) ↔ T.fcL a ∧ T.fcL b := by
  induction a with
  | nil => simp [T.fcL]
  | cons x a ih => simp [T.fcL, ih, and_assoc]

theorem runsL_append : ∀ (xs ys : List T) (a : Nat), T.runsL a (xs ++ ys) = T.runsL a xs ++ T.runsL (a + T.leavesL xs) ys
  | [], ys, a => by simp [T.runsL, T.leavesL]
  | x :: xs, ys, a => by simp [T.runsL, T.leavesL, runsL_append xs ys, Nat.add_assoc]

theorem dimL_append : ∀ (xs ys : List T), T.dimL (xs ++ ys) = T.dimL xs + T.dimL ys
  | [], ys => by simp [T.dimL]
  | x :: xs, ys => by simp [T.dimL, dimL_append xs ys]; omega

mutual
theorem runs_length : ∀ (t : T) (a : Nat), (t.runs a).length = t.nodes
  | .leaf, _ => by simp [T.runs, T.nodes]
  | .node c ks, a => by simp [T.runs, T.nodes, runsL_length ks a]; omega
theorem runsL_length : ∀ (ks : List T) (a : Nat), (T.runsL a ks).length = T.nodesL ks
  | [], _ => by simp [T.runsL, T.nodesL]
  | k :: ks, a => by simp [T.runsL, T.nodesL, runs_length k a, runsL_length ks (a + k.leaves)]
end

mutual
theorem dim_nodes : ∀ (t : T), t.dim + t.nodes = (t.leaves : Int) - 1
  | .leaf => by simp [T.dim, T.nodes, T.leaves]
  | .node c ks => by
    have := dimL_nodes ks
    simp only [T.dim, T.nodes, T.leaves]; omega
theorem dimL_nodes : ∀ (ks : List T), T.dimL ks + T.nodesL ks = (T.leavesL ks : Int) - ks.length
  | [] => by simp [T.dimL, T.nodesL, T.leavesL]
  | k :: ks => by
    have h1 := dim_nodes k
    have h2 := dimL_nodes ks
    simp only [T.dimL, T.nodesL, T.leavesL, List.length_cons]; omega
end

mutual
theorem fc_leaves : ∀ (t : T), t.fc → 1 ≤ t.leaves
  | .leaf, _ => by simp [T.leaves]
  | .node c ks, h => by
    rw [T.fc] at h
    have := fcL_leaves ks h.2.2
    rw [T.leaves]; omega
theorem fcL_leaves : ∀ (ks : List T), T.fcL ks → ks.length ≤ T.leavesL ks
  | [], _ => by simp
  | k :: ks, h => by
    rw [T.fcL] at h
    have h1 := fc_leaves k h.1
    have h2 := fcL_leaves ks h.2
    simp only [T.leavesL, List.length_cons]; omega
end

mutual
theorem fc_dim : ∀ (t : T), t.fc → 0 ≤ t.dim
  | .leaf, _ => by simp [T.dim]
  | .node c ks, h => by
    rw [T.fc] at h
    have := fcL_dim ks h.2.2
    rw [T.dim]; omega
theorem fcL_dim : ∀ (ks : List T), T.fcL ks → 0 ≤ T.dimL ks
  | [], _ => by simp [T.dimL]
  | k :: ks, h => by
    rw [T.fcL] at h
    have h1 := fc_dim k h.1
    have h2 := fcL_dim ks h.2
    simp only [T.dimL]; omega
end

mutual
theorem fc_wf : ∀ (t : T), t.fc → t.leaves ≤ 6 → t.wf
  | .leaf, _, _ => by simp [T.wf]
  | .node c ks, h, h6 => by
    rw [T.fc] at h
    rw [T.leaves] at h6
    have := fcL_leaves ks h.2.2
    obtain ⟨rfl, h2, h3⟩ := h
    rw [T.wf]
    exact ⟨by decide, by decide, by omega, by omega, fcL_wf ks h3 h6⟩
theorem fcL_wf : ∀ (ks : List T), T.fcL ks → T.leavesL ks ≤ 6 → T.wfL ks
  | [], _, _ => by simp [T.wfL]
  | k :: ks, h, h6 => by
    rw [T.fcL] at h
    rw [T.leavesL] at h6
    rw [T.wfL]
    exact ⟨fc_wf k h.1 (by omega), fcL_wf ks h.2 (by omega)⟩
end

mutual
theorem runs_in : ∀ (t : T) (a : Nat) (r : Nat × Nat), t.fc → r ∈ t.runs a → a ≤ r.1 ∧ r.1 + 2 ≤ r.2 ∧ r.2 ≤ a + t.leaves
  | .leaf, a, r, _, hr => by simp [T.runs] at hr
  | .node c ks, a, r, h, hr => by
    rw [T.fc] at h
    have h1 := fcL_leaves ks h.2.2
    rw [T.runs, List.mem_cons] at hr
    rw [T.leaves]
    rcases hr with rfl | hr
    · exact ⟨Nat.le_refl _, by simp only; omega, Nat.le_refl _⟩
    · exact runsL_in ks a r h.2.2 hr
theorem runsL_in : ∀ (ks : List T) (a : Nat) (r : Nat × Nat), T.fcL ks → r ∈ T.runsL a ks → a ≤ r.1 ∧ r.1 + 2 ≤ r.2 ∧ r.2 ≤ a + T.leavesL ks
  | [], a, r, _, hr => by simp [T.runsL] at hr
  | k :: ks, a, r, h, hr => by
    rw [T.fcL] at h
    rw [T.runsL, List.mem_append] at hr
    rw [T.leavesL]
    rcases hr with hr | hr
    · have := runs_in k a r h.1 hr; omega
    · have := runsL_in ks _ r h.2 hr; omega
end

/-- With two trees or more, what lies in one of them is not the whole. -/
theorem runsL_less {ks : List T} {a : Nat} {r : Nat × Nat} (h : T.fcL ks) (h2 : 2 ≤ ks.length) (hr : r ∈ T.runsL a ks) : r.2 - r.1 < T.leavesL ks := by
  match ks, h, h2, hr with
  | k :: k2 :: ks, h, _, hr =>
    rw [T.fcL] at h
    have h3 := fc_leaves k h.1
    have h4 := fcL_leaves (k2 :: ks) h.2
    rw [T.runsL, List.mem_append] at hr
    rw [T.leavesL]
    simp only [List.length_cons] at h4
    rcases hr with hr | hr
    · have := runs_in k a r h.1 hr; omega
    · have := runsL_in (k2 :: ks) _ r h.2 hr; omega

mutual
theorem runs_nodup : ∀ (t : T) (a : Nat), t.fc → (t.runs a).Nodup
  | .leaf, a, _ => by simp [T.runs]
  | .node c ks, a, h => by
    rw [T.fc] at h
    rw [T.runs, List.nodup_cons]
    refine ⟨fun hm => ?_, runsL_nodup ks a h.2.2⟩
    have := runsL_less h.2.2 h.2.1 hm
    simp only at this; omega
theorem runsL_nodup : ∀ (ks : List T) (a : Nat), T.fcL ks → (T.runsL a ks).Nodup
  | [], a, _ => by simp [T.runsL]
  | k :: ks, a, h => by
    rw [T.fcL] at h
    rw [T.runsL, List.nodup_append]
    refine ⟨runs_nodup k a h.1, runsL_nodup ks _ h.2, fun x hx y hy e => ?_⟩
    subst e
    have h1 := runs_in k a x h.1 hx
    have h2 := runsL_in ks _ x h.2 hy
    omega
end

theorem nodup_le {α : Type} [DecidableEq α] : ∀ (xs ys : List α), xs.Nodup → (∀ x ∈ xs, x ∈ ys) → xs.length ≤ ys.length
  | [], _, _, _ => by simp
  | x :: xs, ys, h, hs => by
    rw [List.nodup_cons] at h
    have hx := hs x (by simp)
    have h1 := nodup_le xs (ys.erase x) h.2 (fun y hy => by
      have hne : y ≠ x := fun e => h.1 (e ▸ hy)
      exact (List.mem_erase_of_ne hne).2 (hs y (by simp [hy])))
    rw [List.length_erase_of_mem hx] at h1
    have h2 := List.length_pos_of_mem hx
    simp only [List.length_cons]; omega

/-- One node is split. -/
inductive Sp1 : T → T → Prop
  | here (c : UInt8) (xs ys zs : List T) : 2 ≤ ys.length → xs ++ zs ≠ [] → Sp1 (.node c (xs ++ (ys ++ zs))) (.node c (xs ++ .node 97 ys :: zs))
  | kid (c : UInt8) (xs : List T) (k k' : T) (zs : List T) : Sp1 k k' → Sp1 (.node c (xs ++ k :: zs)) (.node c (xs ++ k' :: zs))

theorem Sp1.same {t t' : T} (h : Sp1 t t') : t'.leaves = t.leaves ∧ t'.nodes = t.nodes + 1 ∧ (t.fc → t'.fc) ∧ ∀ a, ∀ r ∈ t.runs a, r ∈ t'.runs a := by
  induction h with
  | here c xs ys zs h2 hne =>
    refine ⟨by simp [T.leaves, leavesL_append, T.leavesL], by simp [T.nodes, nodesL_append, T.nodesL]; omega, fun hf => ?_, fun a r hr => ?_⟩
    · have hl : 0 < (xs ++ zs).length := List.length_pos_iff.2 hne
      rw [T.fc, fcL_append, fcL_append] at hf
      rw [T.fc, fcL_append, T.fcL, T.fc]
      simp only [List.length_append, List.length_cons] at hl ⊢
      exact ⟨hf.1, by omega, hf.2.2.1, ⟨trivial, h2, hf.2.2.2.1⟩, hf.2.2.2.2⟩
    · rw [T.runs, runsL_append, runsL_append] at hr
      rw [T.runs, runsL_append, T.runsL, T.runs]
      simp only [List.mem_cons, List.mem_append, leavesL_append, T.leavesL, T.leaves] at hr ⊢
      rcases hr with h | h | h | h
      · exact .inl h
      · exact .inr (.inl h)
      · exact .inr (.inr (.inl (.inr h)))
      · exact .inr (.inr (.inr h))
  | kid c xs k k' zs hk ih =>
    obtain ⟨h1, h2, h3, h4⟩ := ih
    refine ⟨by simp [T.leaves, leavesL_append, T.leavesL, h1], by simp [T.nodes, nodesL_append, T.nodesL, h2]; omega, fun hf => ?_, fun a r hr => ?_⟩
    · rw [T.fc, fcL_append, T.fcL] at hf ⊢
      simp only [List.length_append, List.length_cons] at hf ⊢
      exact ⟨hf.1, hf.2.1, hf.2.2.1, h3 hf.2.2.2.1, hf.2.2.2.2⟩
    · rw [T.runs, runsL_append, T.runsL] at hr ⊢
      simp only [List.mem_cons, List.mem_append, leavesL_append, T.leavesL, h1] at hr ⊢
      rcases hr with h | h | h | h
      · exact .inl h
      · exact .inr (.inl h)
      · exact .inr (.inr (.inl (h4 _ r h)))
      · exact .inr (.inr (.inr h))

/-- What begins in one of the trees lies in it. -/
theorem locate {c : UInt8} {xs zs : List T} {k : T} {a : Nat} {r : Nat × Nat} (h : T.fcL (xs ++ k :: zs)) (hr : r ∈ (T.node c (xs ++ k :: zs)).runs a) (h1 : a + T.leavesL xs ≤ r.1) (h2 : r.1 < a + T.leavesL xs + k.leaves) (h3 : r.2 - r.1 < T.leavesL (xs ++ k :: zs)) : r ∈ k.runs (a + T.leavesL xs) := by
  rw [fcL_append, T.fcL] at h
  rw [T.runs, runsL_append, T.runsL, List.mem_cons, List.mem_append, List.mem_append] at hr
  rcases hr with rfl | hr | hr | hr
  · simp only at h3; omega
  · have := runsL_in xs a r h.1 hr; omega
  · exact hr
  · have := runsL_in zs _ r h.2.2 hr; omega

theorem align : ∀ (ks kt : List T), T.fcL ks → T.fcL kt → T.leavesL ks = T.leavesL kt → ks = kt ∨ ∃ xs k zs k' zs', ks = xs ++ k :: zs ∧ kt = xs ++ k' :: zs' ∧ k ≠ k'
  | [], [], _, _, _ => .inl rfl
  | [], k :: kt, _, h, e => by
    rw [T.fcL] at h
    have := fc_leaves k h.1
    simp only [T.leavesL] at e; omega
  | k :: ks, [], h, _, e => by
    rw [T.fcL] at h
    have := fc_leaves k h.1
    simp only [T.leavesL] at e; omega
  | k :: ks, k' :: kt, h, h', e => by
    by_cases hk : k = k'
    · subst hk
      rw [T.fcL] at h h'
      simp only [T.leavesL] at e
      rcases align ks kt h.2 h'.2 (by omega) with rfl | ⟨xs, y, zs, y', zs', rfl, rfl, hne⟩
      · exact .inl rfl
      · exact .inr ⟨k :: xs, y, zs, y', zs', rfl, rfl, hne⟩
    · exact .inr ⟨[], k, ks, k', kt, rfl, rfl, hk⟩

/-- A row of trees is cut behind a number of leaves, or a tree lies across. -/
theorem across : ∀ (L : List T) (n : Nat), n ≤ T.leavesL L → (∃ ms rest, L = ms ++ rest ∧ T.leavesL ms = n) ∨ ∃ ms x rest, L = ms ++ x :: rest ∧ T.leavesL ms < n ∧ n < T.leavesL ms + x.leaves
  | [], n, h => .inl ⟨[], [], rfl, by simp only [T.leavesL] at h ⊢; omega⟩
  | x :: L, n, h => by
    simp only [T.leavesL] at h
    by_cases h0 : n = 0
    · exact .inl ⟨[], x :: L, rfl, by simp [T.leavesL, h0]⟩
    · by_cases h1 : n < x.leaves
      · exact .inr ⟨[], x, L, rfl, by simp only [T.leavesL]; omega, by simp only [T.leavesL]; omega⟩
      · rcases across L (n - x.leaves) (by omega) with ⟨ms, rest, rfl, e⟩ | ⟨ms, y, rest, rfl, e1, e2⟩
        · exact .inl ⟨x :: ms, rest, rfl, by simp only [T.leavesL]; omega⟩
        · exact .inr ⟨x :: ms, y, rest, rfl, by simp only [T.leavesL]; omega, by simp only [T.leavesL]; omega⟩

theorem run_self {t : T} (h : t.fc) (h2 : 2 ≤ t.leaves) (a : Nat) : (a, a + t.leaves) ∈ t.runs a := by
  cases t with
  | leaf => simp [T.leaves] at h2
  | node c ks => rw [T.runs, T.leaves]; simp

/-- Where all leaves below nodes of a face are such of another one, some node can be split, and still they are. -/
theorem key : ∀ (n : Nat) (t s : T) (a : Nat), SizeOf.sizeOf t ≤ n → s.fc → t.fc → s.leaves = t.leaves → (∀ r ∈ t.runs a, r ∈ s.runs a) → s ≠ t → ∃ t', Sp1 t t' ∧ ∀ r ∈ t'.runs a, r ∈ s.runs a
  | 0, t, s, a, h, _, _, _, _, _ => by cases t <;> simp at h <;> omega
  | n + 1, .leaf, s, a, _, hs, _, hl, _, hne => by
    cases s with
    | leaf => exact absurd rfl hne
    | node c ks =>
      rw [T.fc] at hs
      have := fcL_leaves ks hs.2.2
      simp only [T.leaves] at hl; omega
  | n + 1, .node ct kt, .leaf, a, _, _, ht, hl, _, _ => by
    rw [T.fc] at ht
    have := fcL_leaves kt ht.2.2
    simp only [T.leaves] at hl; omega
  | n + 1, .node ct kt, .node cs ks, a, hn, hs, ht, hl, hr, hne => by
    have hs' := hs
    have ht' := ht
    rw [T.fc] at hs ht
    obtain ⟨rfl, hs2, hsL⟩ := hs
    obtain ⟨rfl, ht2, htL⟩ := ht
    simp only [T.leaves] at hl
    rcases align ks kt hsL htL hl with rfl | ⟨xs, k, zs, k', zs', rfl, rfl, hkk⟩
    · exact absurd rfl hne
    · have hsf := (fcL_append _ _).1 hsL
      have htf := (fcL_append _ _).1 htL
      rw [T.fcL] at hsf htf
      have hk1 := fc_leaves k hsf.2.1
      have hk1' := fc_leaves k' htf.2.1
      have hsl := hl
      rw [leavesL_append, leavesL_append, T.leavesL, T.leavesL] at hsl
      -- what of t begins in the leaves of k lies in k
      have hloc : ∀ r, r ∈ T.runsL a (xs ++ k' :: zs') → a + T.leavesL xs ≤ r.1 → r.1 < a + T.leavesL xs + k.leaves → r ∈ k.runs (a + T.leavesL xs) := fun r hm h1 h2 => by
        refine locate hsL (hr r (by rw [T.runs]; exact List.mem_cons_of_mem _ hm)) h1 h2 ?_
        rw [hl]
        exact runsL_less htL ht2 hm
      have hlen : k.leaves < T.leavesL (xs ++ k :: zs) := by
        have h5 := fcL_leaves xs hsf.1
        have h6 := fcL_leaves zs hsf.2.2
        rw [leavesL_append, T.leavesL]
        simp only [List.length_append, List.length_cons] at hs2
        omega
      by_cases he : k.leaves = k'.leaves
      · have hd : SizeOf.sizeOf k' < SizeOf.sizeOf (xs ++ k' :: zs') := List.sizeOf_lt_of_mem (by simp)
        simp only [T.node.sizeOf_spec] at hn
        obtain ⟨k'', h1, h2⟩ := key n k' k (a + T.leavesL xs) (by omega) hsf.2.1 htf.2.1 he (fun r hm => by
          have hi := runs_in k' _ r htf.2.1 hm
          refine hloc r ?_ hi.1 (by omega)
          rw [runsL_append, T.runsL]
          simp [hm]) hkk
        refine ⟨.node 97 (xs ++ k'' :: zs'), .kid 97 xs k' k'' zs' h1, fun r hm => ?_⟩
        rw [T.runs, runsL_append, T.runsL, leavesL_append, T.leavesL, h1.same.1] at hm
        simp only [List.mem_cons, List.mem_append] at hm
        rcases hm with hm | hm | hm | hm
        · exact hr r (by rw [T.runs, leavesL_append, T.leavesL]; simp [hm])
        · exact hr r (by rw [T.runs, runsL_append]; simp [hm])
        · have h3 := h2 r hm
          rw [T.runs, runsL_append, T.runsL]
          simp [h3]
        · exact hr r (by rw [T.runs, runsL_append, T.runsL]; simp [hm])
      · rcases Nat.lt_or_ge k.leaves k'.leaves with hlt | hge
        · exfalso
          have h1 := run_self htf.2.1 (by omega) (a + T.leavesL xs)
          have h2 := hloc (a + T.leavesL xs, a + T.leavesL xs + k'.leaves) (by rw [runsL_append, T.runsL]; simp [h1]) (Nat.le_refl _) (by simp only; omega)
          have h3 := runs_in k _ _ hsf.2.1 h2
          simp only at h3; omega
        · have hL := htf.2
          have hZ : T.fcL (k' :: zs') := by rw [T.fcL]; exact hL
          rcases across (k' :: zs') k.leaves (by rw [T.leavesL]; omega) with ⟨ms, rest, e, hm⟩ | ⟨ms, x, rest, e, h1, h2⟩
          · have hR := run_self hsf.2.1 (by omega) (a + T.leavesL xs)
            have hms : 2 ≤ ms.length := by
              match ms, e, hm with
              | [], _, hm => simp only [T.leavesL] at hm; omega
              | [y], e, hm =>
                simp only [List.cons_append, List.nil_append, List.cons.injEq] at e
                rw [← e.1] at hm
                simp only [T.leavesL] at hm; omega
              | _ :: _ :: _, _, _ => simp
            have hne2 : xs ++ rest ≠ [] := fun e2 => by
              rw [List.append_eq_nil_iff] at e2
              obtain ⟨rfl, rfl⟩ := e2
              rw [List.append_nil] at e
              rw [List.nil_append] at hlen
              have h7 : T.leavesL (k' :: zs') = T.leavesL ms := by rw [e]
              rw [T.leavesL] at h7
              simp only [T.leavesL] at hlen hsl
              omega
            refine ⟨.node 97 (xs ++ .node 97 ms :: rest), by rw [e]; exact .here 97 xs ms rest hms hne2, fun r hm' => ?_⟩
            rw [e] at hr
            rw [T.runs, runsL_append, T.runsL, T.runs, leavesL_append, T.leavesL, T.leaves] at hm'
            simp only [List.mem_cons, List.mem_append] at hm'
            rcases hm' with hm' | hm' | (hm' | hm') | hm'
            · exact hr r (by rw [T.runs, leavesL_append, leavesL_append]; simp [hm'])
            · exact hr r (by rw [T.runs, runsL_append]; simp [hm'])
            · rw [hm', hm, T.runs, runsL_append, T.runsL]
              simp [hR]
            · exact hr r (by rw [T.runs, runsL_append, runsL_append]; simp [hm'])
            · exact hr r (by rw [T.runs, runsL_append, runsL_append]; simp [hm'])
          · exfalso
            rw [e, fcL_append, T.fcL] at hZ
            have h3 := run_self hZ.2.1 (by omega) (a + T.leavesL xs + T.leavesL ms)
            have h4 := hloc (a + T.leavesL xs + T.leavesL ms, a + T.leavesL xs + T.leavesL ms + x.leaves) (by rw [e, runsL_append, runsL_append, T.runsL]; simp [h3]) (by simp only; omega) (by simp only; omega)
            have h5 := runs_in k _ _ hsf.2.1 h4
            simp only at h5; omega

/-- All leaves below nodes of a face are such of the other one. -/
def inF (s t : T) : Prop := s.leaves = t.leaves ∧ ∀ r ∈ t.runs 0, r ∈ s.runs 0

theorem inF_self (t : T) : inF t t := ⟨rfl, fun _ h => h⟩

theorem inF_nodes {s t : T} (hs : s.fc) (ht : t.fc) (h : inF s t) (hne : s ≠ t) : t.nodes < s.nodes := by
  obtain ⟨t', h1, h2⟩ := key _ t s 0 (Nat.le_refl _) hs ht h.1 h.2 hne
  obtain ⟨_, e2, e3, _⟩ := h1.same
  have h3 := nodup_le (t'.runs 0) (s.runs 0) (runs_nodup t' 0 (e3 ht)) h2
  rw [runs_length, runs_length] at h3
  omega

theorem inF_step {s t : T} (hs : s.fc) (ht : t.fc) (hne : s ≠ t) : inF s t ↔ ∃ t', Sp1 t t' ∧ inF s t' := by
  constructor
  · intro h
    obtain ⟨t', h1, h2⟩ := key _ t s 0 (Nat.le_refl _) hs ht h.1 h.2 hne
    exact ⟨t', h1, by rw [h1.same.1]; exact h.1, h2⟩
  · rintro ⟨t', h1, h2, h3⟩
    obtain ⟨e1, _, _, e4⟩ := h1.same
    exact ⟨by rw [h2, e1], fun r hr => h3 r (e4 0 r hr)⟩

/-- A node split at p and q, as the model says it. -/
def splitN (ks : List T) (p q : Nat) : T := .node 97 (ks.take p ++ .node 97 ((ks.drop p).take q) :: ks.drop (p + q))

theorem take_parts (ks : List T) (p q : Nat) : ks = ks.take p ++ ((ks.drop p).take q ++ ks.drop (p + q)) := by
  rw [← List.drop_drop, List.take_append_drop, List.take_append_drop]

theorem split_here {ks : List T} {p q : Nat} (h2 : 2 ≤ q) (hq : q < ks.length) (hp : p + q ≤ ks.length) : Sp1 (.node 97 ks) (splitN ks p q) := by
  have h := Sp1.here 97 (ks.take p) ((ks.drop p).take q) (ks.drop (p + q)) (by simp; omega) (fun e => by
    have := congrArg List.length e
    simp only [List.length_append, List.length_take, List.length_drop, List.length_nil] at this; omega)
  rw [← take_parts] at h
  exact h

mutual
theorem split_at : ∀ (t : T) (k : Nat) (r : T) (c : UInt8) (ks : List T) (a p q : Nat), t.fc → t.cutAt k = some (r, .node c ks, a) → 2 ≤ q → q < ks.length → p + q ≤ ks.length → Sp1 t (t.putAt k (splitN ks p q))
  | .leaf, k, r, c, ks, a, p, q, _, h, _, _, _ => by rw [T.cutAt] at h; cases h
  | .node c0 ks0, k, r, c, ks, a, p, q, hf, h, h2, hq, hp => by
    rw [T.cutAt] at h
    rw [T.putAt]
    rw [T.fc] at hf
    by_cases h0 : k = 0
    · rw [if_pos h0] at h ⊢
      simp only [Option.some.injEq, Prod.mk.injEq, T.node.injEq] at h
      obtain ⟨_, ⟨rfl, rfl⟩, _⟩ := h
      rw [hf.1]
      exact split_here h2 hq hp
    · rw [if_neg h0] at h ⊢
      cases hc : T.cutL ks0 (k - 1) with
      | none => rw [hc] at h; cases h
      | some x =>
        obtain ⟨rs, p', a'⟩ := x
        rw [hc] at h
        simp only [Option.some.injEq, Prod.mk.injEq] at h
        obtain ⟨_, rfl, _⟩ := h
        obtain ⟨xs, y, y', zs, rfl, e, hy⟩ := split_atL ks0 (k - 1) rs c ks a' p q hf.2.2 hc h2 hq hp
        rw [e]
        exact .kid c0 xs y y' zs hy
theorem split_atL : ∀ (ts : List T) (k : Nat) (rs : List T) (c : UInt8) (ks : List T) (a p q : Nat), T.fcL ts → T.cutL ts k = some (rs, .node c ks, a) → 2 ≤ q → q < ks.length → p + q ≤ ks.length → ∃ xs y y' zs, ts = xs ++ y :: zs ∧ T.putL ts k (splitN ks p q) = xs ++ y' :: zs ∧ Sp1 y y'
  | [], k, rs, c, ks, a, p, q, _, h, _, _, _ => by rw [T.cutL] at h; cases h
  | t :: ts, k, rs, c, ks, a, p, q, hf, h, h2, hq, hp => by
    rw [T.cutL] at h
    rw [T.putL]
    rw [T.fcL] at hf
    cases hc : t.cutAt k with
    | some x =>
      obtain ⟨r', p', a'⟩ := x
      have hlt : k < t.nodes := by
        rcases Nat.lt_or_ge k t.nodes with h1 | h1
        · exact h1
        · rw [cutAt_none t k h1] at hc; cases hc
      rw [hc] at h
      simp only [Option.some.injEq, Prod.mk.injEq] at h
      obtain ⟨_, rfl, _⟩ := h
      rw [if_pos hlt]
      exact ⟨[], t, _, ts, rfl, rfl, split_at t k r' c ks a' p q hf.1 hc h2 hq hp⟩
    | none =>
      have hge : ¬ k < t.nodes := fun h1 => by
        obtain ⟨r', p', a', e⟩ := cutAt_some t k h1
        rw [e] at hc; cases hc
      rw [hc] at h
      simp only at h
      rw [if_neg hge]
      cases hd : T.cutL ts (k - t.nodes) with
      | none => rw [hd] at h; cases h
      | some x =>
        obtain ⟨rs', p', a'⟩ := x
        rw [hd] at h
        simp only [Option.some.injEq, Prod.mk.injEq] at h
        obtain ⟨_, rfl, _⟩ := h
        obtain ⟨xs, y, y', zs, rfl, e, hy⟩ := split_atL ts _ rs' c ks a' p q hf.2 hd h2 hq hp
        exact ⟨t :: xs, y, y', zs, rfl, by rw [e]; rfl, hy⟩
end

theorem cutL_at : ∀ (xs : List T) (y : T) (zs : List T) (k : Nat) (r p : T) (a : Nat), y.cutAt k = some (r, p, a) → ∀ s : T, (∃ rs a', T.cutL (xs ++ y :: zs) (T.nodesL xs + k) = some (rs, p, a')) ∧ T.putL (xs ++ y :: zs) (T.nodesL xs + k) s = xs ++ y.putAt k s :: zs
  | [], y, zs, k, r, p, a, h, s => by
    have hlt : k < y.nodes := by
      rcases Nat.lt_or_ge k y.nodes with h1 | h1
      · exact h1
      · rw [cutAt_none y k h1] at h; cases h
    simp only [List.nil_append, T.nodesL, Nat.zero_add]
    refine ⟨⟨_, _, by rw [T.cutL, h]⟩, by rw [T.putL, if_pos hlt]⟩
  | x :: xs, y, zs, k, r, p, a, h, s => by
    obtain ⟨⟨rs, a', h1⟩, h2⟩ := cutL_at xs y zs k r p a h s
    simp only [List.cons_append, T.nodesL]
    refine ⟨⟨x :: rs, x.leaves + a', ?_⟩, ?_⟩
    · rw [T.cutL, cutAt_none x _ (by omega)]
      simp only
      rw [show x.nodes + T.nodesL xs + k - x.nodes = T.nodesL xs + k by omega, h1]
    · rw [T.putL, if_neg (by omega), show x.nodes + T.nodesL xs + k - x.nodes = T.nodesL xs + k by omega, h2]

/-- Every splitting is one at a node's index, at p and q. -/
theorem Sp1.at_node {t t' : T} (h : Sp1 t t') : t.fc → ∃ k r c ks a p q, k < t.nodes ∧ t.cutAt k = some (r, .node c ks, a) ∧ 2 ≤ q ∧ q < ks.length ∧ p + q ≤ ks.length ∧ t' = t.putAt k (splitN ks p q) := by
  induction h with
  | here c xs ys zs h2 hne =>
    intro hf
    rw [T.fc] at hf
    have hl : 0 < (xs ++ zs).length := List.length_pos_iff.2 hne
    simp only [List.length_append] at hl
    refine ⟨0, .leaf, c, xs ++ (ys ++ zs), 0, xs.length, ys.length, by rw [T.nodes]; omega, by rw [T.cutAt, if_pos rfl], h2, by simp only [List.length_append]; omega, by simp only [List.length_append]; omega, ?_⟩
    rw [T.putAt, if_pos rfl, splitN, hf.1]
    congr 1
    rw [List.take_left', List.drop_left', List.take_left' rfl]
    · congr 2
      rw [← List.drop_drop, List.drop_left' rfl, List.drop_left' rfl]
    · rfl
    · rfl
  | kid c xs y y' zs hk ih =>
    intro hf
    rw [T.fc, fcL_append, T.fcL] at hf
    obtain ⟨k, r, c', ks, a, p, q, h0, h1, h2, h3, h4, e⟩ := ih hf.2.2.2.1
    obtain ⟨⟨rs, a', h5⟩, h6⟩ := cutL_at xs y zs k r _ a h1 (splitN ks p q)
    refine ⟨T.nodesL xs + k + 1, .node c rs, c', ks, a', p, q, ?_, ?_, h2, h3, h4, ?_⟩
    · rw [T.nodes, nodesL_append, T.nodesL]; omega
    · rw [T.cutAt, if_neg (by omega), show T.nodesL xs + k + 1 - 1 = T.nodesL xs + k by omega, h5]
    · rw [T.putAt, if_neg (by omega), show T.nodesL xs + k + 1 - 1 = T.nodesL xs + k by omega, h6, e]

mutual
theorem mirror_fc : ∀ (t : T), t.fc → t.mirror.fc
  | .leaf, _ => by simp [T.mirror, T.fc]
  | .node c ks, h => by
    rw [T.fc] at h
    rw [T.mirror, T.fc, mirrorL_length]
    exact ⟨h.1, h.2.1, mirrorL_fc ks h.2.2⟩
theorem mirrorL_fc : ∀ (ks : List T), T.fcL ks → T.fcL (T.mirrorL ks)
  | [], _ => by simp [T.mirrorL, T.fcL]
  | k :: ks, h => by
    rw [T.fcL] at h
    rw [T.mirrorL, fcL_append, T.fcL, T.fcL]
    exact ⟨mirrorL_fc ks h.2, mirror_fc k h.1, trivial⟩
end

theorem mirror_dim (t : T) : t.mirror.dim = t.dim := by
  have h1 := dim_nodes t
  have h2 := dim_nodes t.mirror
  obtain ⟨h3, h4⟩ := mirror_size t
  rw [h3, h4] at h2
  omega

end Go.Proofs.Ytbbkaephlojalaa
