/- Patterns with their parts are parts of the tree: FnPlaces. -/
import Derived.Test.YtfjodghnheliaaaKPPt
import Derived.Test.YtfjodghnheliaaaKLawPl
import Derived.Test.YtfjodghnheliaaaKWholeI
namespace Go.Proofs.Ytfjodghnheliaaa
open Go.RowKit

theorem parseAll_texts : ∀ (ts : List T), (∀ t ∈ ts, t.wf ∧ t.leaves ≤ 12 ∧ t.nodes ≤ 16) → parseAll (ts.map T.text) = some ts
  | [], _ => rfl
  | t :: ts, h => by
    have h1 := h t (by simp)
    have ih := parseAll_texts ts (fun u hu => h u (by simp [hu]))
    simp only [List.map_cons, parseAll, parse_text h1.1 h1.2.1 h1.2.2, ih]

theorem leavesL_le : ∀ (ts : List T) (t : T), t ∈ ts → t.leaves ≤ T.leavesL ts ∧ t.nodes ≤ T.nodesL ts
  | [], t, h => by simp at h
  | u :: ts, t, h => by
    rw [T.leavesL, T.nodesL]
    rcases List.mem_cons.1 h with e | e
    · subst e; omega
    · have := leavesL_le ts t e; omega
theorem wfL_mem : ∀ (ts : List T), T.wfL ts → ∀ t ∈ ts, t.wf
  | [], _, t, h => by simp at h
  | u :: ts, hw, t, h => by
    rcases List.mem_cons.1 h with e | e
    · subst e; exact hw.1
    · exact wfL_mem ts hw.2 t e

/-- What is asked of a place. -/
theorem place_told {p s : ByteArray} (j : Nat) (hj : j < (plTxs p s).length) : ∃ y : ByteArray, graftV (wholeOf p.data.toList ((plTxs p s)[j]).2) = .tuple #[.string y, .bool true] ∧
    partV (cutOf s.data.toList ((((plTxs p s)[j]).1 : Nat) : Int)) = .tuple #[.string y, .bool true] ∧ putV p s ((((plTxs p s)[j]).1 : Nat) : Int) p = .tuple #[.string s, .bool true] ∧
    ((plTxs p s)[j]).1 ≤ 100 ∧ ((plTxs p s)[j]).2.length ≤ 100 ∧ ∀ i (h : i < ((plTxs p s)[j]).2.length), (((plTxs p s)[j]).2[i]).length ≤ 1048576 := by
  obtain ⟨x, hx⟩ : ∃ x, x = (plTxs p s)[j] := ⟨_, rfl⟩
  rw [← hx]
  have hm : x ∈ plTxs p s := by rw [hx]; exact List.getElem_mem hj
  unfold plTxs plV at hm
  split at hm
  · rename_i y t hy ht
    obtain ⟨hpy, c, ks, ey⟩ := patOf_some hy
    obtain ⟨hwy, hyt, hly, hny⟩ := parse_some hpy
    obtain ⟨hwt, hst, hlt, hnt⟩ := parse_some ht
    simp only [Option.getD_some, List.mem_map] at hm
    obtain ⟨z, hz, rfl⟩ := hm
    unfold plAll plUp at hz
    rw [List.mem_filterMap] at hz
    obtain ⟨k, hk, hzk⟩ := hz
    have hk2 : k < t.nodes := by simpa using hk
    obtain ⟨r, q, a, hcut⟩ := cutAt_some t k hk2
    have hsub := subs_cut t k r q a hcut
    unfold plAt at hzk
    simp only [hsub, Option.bind_some, Option.map_eq_some_iff] at hzk
    obtain ⟨ts, hts, rfl⟩ := hzk
    obtain ⟨f1, f2⟩ := fill_parts y q ts [] hts
    rw [List.append_nil] at f2
    have hqw := (cutAt_wf t k r q a hwt hcut).2.1
    obtain ⟨g1, g2, g3, g4⟩ := partsOf_ok y q ts hwy hqw hts
    obtain ⟨s1, s2, s3, s4⟩ := cut_size t k r q a hcut
    obtain ⟨_, hql, hqn⟩ := cut_subs t k r q a hcut
    have htsm : ∀ u ∈ ts, u.wf ∧ u.leaves ≤ 12 ∧ u.nodes ≤ 16 := fun u hu => by
      have := leavesL_le ts u hu
      exact ⟨wfL_mem ts g2 u hu, by omega, by omega⟩
    refine ⟨⟨q.text.toArray⟩, ?_, ?_, ?_, by show k ≤ 100; omega, by show (ts.map T.text).length ≤ 100; rw [List.length_map]; omega, ?_⟩
    · have e : wholeOf p.data.toList (plTx (k, ts)).2 = some q := by
        show wholeOf p.data.toList (ts.map T.text) = some q
        unfold wholeOf
        rw [hpy]
        simp only
        rw [if_pos (by rw [List.length_map]; exact f1), parseAll_texts ts htsm]
        simp only [f2]
      rw [e]
      exact doneV_yes (by simp [small]; omega)
    · show partV (cutOf s.data.toList (k : Int)) = _
      rw [cutOf_nat ht, hcut]; rfl
    · show putV p s (k : Int) p = _
      rw [putV_some hy ht hpy, if_pos ⟨rfl, by omega, by omega⟩, Int.toNat_natCast, putOf_yes hcut hts, f2, put_same hwt hcut, doneV_yes (by simp [small, hlt, hnt])]
      obtain ⟨⟨l⟩⟩ := s
      simp only at hst
      rw [hst]
    · intro i hi
      have hi2 : i < ts.length := by
        have : (plTx (k, ts)).2.length = ts.length := List.length_map _
        omega
      have e : (plTx (k, ts)).2[i] = (ts[i]).text := by simp [plTx]
      rw [e]
      have h9 := htsm _ (List.getElem_mem hi2)
      have := text_length (ts[i])
      omega
  · simp at hm

theorem plE.rd {w : World} {a : Option Addr} {ks : List (Nat × List (List UInt8))} (h : Rd plE w (fun _ => True) a ks) (k : Nat) (hk : k < ks.length) :
    ∃ g g' c, a = some ⟨g, 0, none⟩ ∧ w.cell? ⟨g, k * 2, none⟩ = some (.int .i64 (ks[k]).1) ∧ w.cell? ⟨g, k * 2 + 1, none⟩ = some (.slice (some ⟨g', 0, none⟩) (ks[k]).2.length c) ∧ Lies w (some ⟨g', 0, none⟩) (ks[k]).2 := plE.get h k hk

set_option maxRecDepth 100000 in
set_option maxHeartbeats 2000000 in
theorem samePlaces_any (ks : List (Nat × List (List UInt8))) (n : Nat) (hn : n = ks.length) (a b : Option Addr) (ca cb : Nat) (w : World) (hn2 : n ≤ 1000) (hks : ∀ x ∈ ks, x.2.length ≤ 100 ∧ x.1 ≤ 100) (ha : Rd plE w (fun _ => True) a ks) (hb : Rd plE w (fun _ => True) b ks) :
    Calls Try.prog 28 #[.slice a n ca, .slice b n cb] w (Ans (.bool true) w) := by
  have HA := Lib.hid ha
  have HB := Lib.hid hb
  have HNN := Lib.hid hn
  have HKS := Lib.hid hks
  clear ha hb hn hks
  go_enter Try.func28, Try.ntmps28
  go_wp2_with fail
  go_loopw [5] (fun i wr => ∃ k : Nat, k ≤ n ∧ i = .int .i64 k ∧ Below w.heap.size w wr) (fun i _ => n - (intOf i).toNat)
  case atStart => exact ⟨0, Nat.zero_le _, rfl, Below.refl _ _⟩
  case round =>
    obtain ⟨k, hk, rfl, hB⟩ := hrel
    have HBR := Lib.hid hB
    by_cases hlt : k < n
    · have hlt' : k < ks.length := by rw [← HNN.out]; exact hlt
      obtain ⟨g1, g1', c1, rfl, d1, d2, l1⟩ := plE.rd (HA.out.below (by decide) hB) k hlt'
      obtain ⟨g2, g2', c2, rfl, d3, d4, l2⟩ := plE.rd (HB.out.below (by decide) hB) k hlt'
      have hsz := (HKS.out _ (List.getElem_mem hlt')).1
      obtain ⟨ts, hts⟩ : ∃ ts, ts = (ks[k]).2 := ⟨_, rfl⟩
      obtain ⟨nd, hnd⟩ : ∃ nd, nd = (ks[k]).1 := ⟨_, rfl⟩
      rw [← hts] at d2 d4 l1 l2 hsz
      rw [← hnd] at d1 d3
      obtain ⟨m, hm⟩ : ∃ m, m = ts.length := ⟨_, rfl⟩
      rw [← hm] at d2 d4 hsz
      have HST := Lib.hid (fun (W : World) (hb : Below wr.heap.size wr W) => sameTexts_any ts m hm (some ⟨g1', 0, none⟩) (some ⟨g2', 0, none⟩) c1 c2 W (by omega) (l1.below hb) (l2.below hb))
      have k0 : (0 : Int) ≤ k := by omega
      clear hts hnd hm l1 l2 hB
      go_wp2_with fail
      refine wp_region_held_drew (S := (fun w' => w'.cell? ⟨g1, k * 2, none⟩ = some (.int .i64 nd) ∧ w'.cell? ⟨g1, k * 2 + 1, none⟩ = some (.slice (some ⟨g1', 0, none⟩) m c1) ∧ w'.cell? ⟨g2, k * 2, none⟩ = some (.int .i64 nd) ∧ w'.cell? ⟨g2, k * 2 + 1, none⟩ = some (.slice (some ⟨g2', 0, none⟩) m c2))) (by kernel_rfl) (by exact ⟨d1, d2, d3, d4⟩) (fun hHeld => ?_)
      refine wpAnyH_take (i := 0) (oi := { dst := some 17, op := Op.move (Operand.tmp 0), type := 41, pos := "laws.go:582", after := #[], guard := none }) (v := ?_) rfl (by kernel_rfl) (by kernel_rfl) (by kernel_rfl) (fun _ _ _ h => h) (Or.inl ⟨by rfl, ?_⟩) (by assumption) ?_
      rotate_left
      · (intro w hSw; (try dsimp only at hSw); go_simp <;> with_reducible rfl)
      (try simp only [Act.put, List.setIfInBounds_toArray, List.set_cons_zero, List.set_cons_succ])
      refine wpAnyH_take (i := 1) (oi := { dst := some 18, op := Op.move (Operand.tmp 5), type := 3, pos := "laws.go:582", after := #[], guard := none }) (v := ?_) rfl (by kernel_rfl) (by kernel_rfl) (by kernel_rfl) (fun _ _ _ h => h) (Or.inl ⟨by rfl, ?_⟩) (by assumption) ?_
      rotate_left
      · (intro w hSw; (try dsimp only at hSw); go_simp <;> with_reducible rfl)
      (try simp only [Act.put, List.setIfInBounds_toArray, List.set_cons_zero, List.set_cons_succ])
      refine wpAnyH_take (i := 2) (oi := { dst := some 19, op := Op.indexAddr 41 (Operand.tmp 17) (Operand.tmp 18), type := 0, pos := "laws.go:582", after := #[{ on := 0, ground := Ground.data }, { on := 1, ground := Ground.data }], guard := none }) (v := ?_) rfl (by kernel_rfl) (by kernel_rfl) (by kernel_rfl) (fun _ _ _ h => h) (Or.inl ⟨by rfl, ?_⟩) (by assumption) ?_
      rotate_left
      · (intro w hSw; (try dsimp only at hSw); go_simp <;> with_reducible rfl)
      (try simp only [Act.put, List.setIfInBounds_toArray, List.set_cons_zero, List.set_cons_succ])
      refine wpAnyH_take (i := 3) (oi := { dst := some 20, op := Op.fieldAddr 47 (Operand.tmp 19) 0, type := 0, pos := "laws.go:582", after := #[{ on := 2, ground := Ground.data }], guard := none }) (v := ?_) rfl (by kernel_rfl) (by kernel_rfl) (by kernel_rfl) (fun _ _ _ h => h) (Or.inl ⟨by rfl, ?_⟩) (by assumption) ?_
      rotate_left
      · (intro w hSw; (try dsimp only at hSw); go_simp <;> with_reducible rfl)
      (try simp only [Act.put, List.setIfInBounds_toArray, List.set_cons_zero, List.set_cons_succ])
      refine wpAnyH_take (i := 4) (oi := { dst := some 21, op := Op.load 3 (Operand.tmp 20), type := 3, pos := "laws.go:582", after := #[{ on := 3, ground := Ground.data }], guard := none }) (v := ?_) rfl (by kernel_rfl) (by kernel_rfl) (by kernel_rfl) (fun _ _ _ h => h) (Or.inl ⟨by rfl, ?_⟩) (by assumption) ?_
      rotate_left
      · (intro w hSw; (try dsimp only at hSw); go_simp <;> with_reducible rfl)
      (try simp only [Act.put, List.setIfInBounds_toArray, List.set_cons_zero, List.set_cons_succ])
      refine wpAnyH_take (i := 5) (oi := { dst := some 22, op := Op.move (Operand.tmp 1), type := 41, pos := "laws.go:582", after := #[], guard := none }) (v := ?_) rfl (by kernel_rfl) (by kernel_rfl) (by kernel_rfl) (fun _ _ _ h => h) (Or.inl ⟨by rfl, ?_⟩) (by assumption) ?_
      rotate_left
      · (intro w hSw; (try dsimp only at hSw); go_simp <;> with_reducible rfl)
      (try simp only [Act.put, List.setIfInBounds_toArray, List.set_cons_zero, List.set_cons_succ])
      refine wpAnyH_take (i := 6) (oi := { dst := some 23, op := Op.move (Operand.tmp 5), type := 3, pos := "laws.go:582", after := #[], guard := none }) (v := ?_) rfl (by kernel_rfl) (by kernel_rfl) (by kernel_rfl) (fun _ _ _ h => h) (Or.inl ⟨by rfl, ?_⟩) (by assumption) ?_
      rotate_left
      · (intro w hSw; (try dsimp only at hSw); go_simp <;> with_reducible rfl)
      (try simp only [Act.put, List.setIfInBounds_toArray, List.set_cons_zero, List.set_cons_succ])
      refine wpAnyH_take (i := 7) (oi := { dst := some 24, op := Op.indexAddr 41 (Operand.tmp 22) (Operand.tmp 23), type := 0, pos := "laws.go:582", after := #[{ on := 5, ground := Ground.data }, { on := 6, ground := Ground.data }], guard := none }) (v := ?_) rfl (by kernel_rfl) (by kernel_rfl) (by kernel_rfl) (fun _ _ _ h => h) (Or.inl ⟨by rfl, ?_⟩) (by assumption) ?_
      rotate_left
      · (intro w hSw; (try dsimp only at hSw); go_simp <;> with_reducible rfl)
      (try simp only [Act.put, List.setIfInBounds_toArray, List.set_cons_zero, List.set_cons_succ])
      refine wpAnyH_take (i := 8) (oi := { dst := some 25, op := Op.fieldAddr 47 (Operand.tmp 24) 0, type := 0, pos := "laws.go:582", after := #[{ on := 7, ground := Ground.data }], guard := none }) (v := ?_) rfl (by kernel_rfl) (by kernel_rfl) (by kernel_rfl) (fun _ _ _ h => h) (Or.inl ⟨by rfl, ?_⟩) (by assumption) ?_
      rotate_left
      · (intro w hSw; (try dsimp only at hSw); go_simp <;> with_reducible rfl)
      (try simp only [Act.put, List.setIfInBounds_toArray, List.set_cons_zero, List.set_cons_succ])
      refine wpAnyH_take (i := 9) (oi := { dst := some 26, op := Op.load 3 (Operand.tmp 25), type := 3, pos := "laws.go:582", after := #[{ on := 8, ground := Ground.data }], guard := none }) (v := ?_) rfl (by kernel_rfl) (by kernel_rfl) (by kernel_rfl) (fun _ _ _ h => h) (Or.inl ⟨by rfl, ?_⟩) (by assumption) ?_
      rotate_left
      · (intro w hSw; (try dsimp only at hSw); go_simp <;> with_reducible rfl)
      (try simp only [Act.put, List.setIfInBounds_toArray, List.set_cons_zero, List.set_cons_succ])
      refine wpAnyH_take (i := 10) (oi := { dst := some 27, op := Op.binOp BinOp.neq 3 (Operand.tmp 21) (Operand.tmp 26) 3, type := 4, pos := "laws.go:582", after := #[{ on := 4, ground := Ground.data }, { on := 9, ground := Ground.data }], guard := none }) (v := ?_) rfl (by kernel_rfl) (by kernel_rfl) (by kernel_rfl) (fun _ _ _ h => h) (Or.inl ⟨by rfl, ?_⟩) (by assumption) ?_
      rotate_left
      · (intro w hSw; (try dsimp only at hSw); go_simp <;> with_reducible rfl)
      (try simp only [Act.put, List.setIfInBounds_toArray, List.set_cons_zero, List.set_cons_succ])
      refine wpAnyH_take (i := 11) (oi := { dst := some 28, op := Op.move (Operand.tmp 27), type := 4, pos := "laws.go:582", after := #[{ on := 10, ground := Ground.data }], guard := none }) (v := ?_) rfl (by kernel_rfl) (by kernel_rfl) (by kernel_rfl) (fun _ _ _ h => h) (Or.inl ⟨by rfl, ?_⟩) (by assumption) ?_
      rotate_left
      · (intro w hSw; (try dsimp only at hSw); go_simp <;> with_reducible rfl)
      (try simp only [Act.put, List.setIfInBounds_toArray, List.set_cons_zero, List.set_cons_succ])
      refine wpAnyH_take (i := 12) (oi := { dst := some 29, op := Op.move (Operand.tmp 0), type := 41, pos := "laws.go:582", after := #[{ on := 11, ground := Ground.guard }], guard := some (11, false) }) (v := ?_) rfl (by kernel_rfl) (by kernel_rfl) (by kernel_rfl) (fun _ _ _ h => h) (Or.inl ⟨by rfl, ?_⟩) (by assumption) ?_
      rotate_left
      · (intro w hSw; (try dsimp only at hSw); go_simp <;> with_reducible rfl)
      (try simp only [Act.put, List.setIfInBounds_toArray, List.set_cons_zero, List.set_cons_succ])
      refine wpAnyH_take (i := 13) (oi := { dst := some 30, op := Op.move (Operand.tmp 5), type := 3, pos := "laws.go:582", after := #[{ on := 11, ground := Ground.guard }], guard := some (11, false) }) (v := ?_) rfl (by kernel_rfl) (by kernel_rfl) (by kernel_rfl) (fun _ _ _ h => h) (Or.inl ⟨by rfl, ?_⟩) (by assumption) ?_
      rotate_left
      · (intro w hSw; (try dsimp only at hSw); go_simp <;> with_reducible rfl)
      (try simp only [Act.put, List.setIfInBounds_toArray, List.set_cons_zero, List.set_cons_succ])
      refine wpAnyH_take (i := 14) (oi := { dst := some 31, op := Op.indexAddr 41 (Operand.tmp 29) (Operand.tmp 30), type := 0, pos := "laws.go:582", after := #[{ on := 12, ground := Ground.data }, { on := 13, ground := Ground.data }, { on := 11, ground := Ground.guard }], guard := some (11, false) }) (v := ?_) rfl (by kernel_rfl) (by kernel_rfl) (by kernel_rfl) (fun _ _ _ h => h) (Or.inl ⟨by rfl, ?_⟩) (by assumption) ?_
      rotate_left
      · (intro w hSw; (try dsimp only at hSw); go_simp <;> with_reducible rfl)
      (try simp only [Act.put, List.setIfInBounds_toArray, List.set_cons_zero, List.set_cons_succ])
      refine wpAnyH_take (i := 15) (oi := { dst := some 32, op := Op.fieldAddr 47 (Operand.tmp 31) 1, type := 0, pos := "laws.go:582", after := #[{ on := 14, ground := Ground.data }, { on := 11, ground := Ground.guard }], guard := some (11, false) }) (v := ?_) rfl (by kernel_rfl) (by kernel_rfl) (by kernel_rfl) (fun _ _ _ h => h) (Or.inl ⟨by rfl, ?_⟩) (by assumption) ?_
      rotate_left
      · (intro w hSw; (try dsimp only at hSw); go_simp <;> with_reducible rfl)
      (try simp only [Act.put, List.setIfInBounds_toArray, List.set_cons_zero, List.set_cons_succ])
      refine wpAnyH_take (i := 16) (oi := { dst := some 33, op := Op.load 29 (Operand.tmp 32), type := 29, pos := "laws.go:582", after := #[{ on := 15, ground := Ground.data }, { on := 11, ground := Ground.guard }], guard := some (11, false) }) (v := ?_) rfl (by kernel_rfl) (by kernel_rfl) (by kernel_rfl) (fun _ _ _ h => h) (Or.inl ⟨by rfl, ?_⟩) (by assumption) ?_
      rotate_left
      · (intro w hSw; (try dsimp only at hSw); go_simp <;> with_reducible rfl)
      (try simp only [Act.put, List.setIfInBounds_toArray, List.set_cons_zero, List.set_cons_succ])
      refine wpAnyH_take (i := 17) (oi := { dst := some 34, op := Op.move (Operand.tmp 1), type := 41, pos := "laws.go:582", after := #[{ on := 11, ground := Ground.guard }], guard := some (11, false) }) (v := ?_) rfl (by kernel_rfl) (by kernel_rfl) (by kernel_rfl) (fun _ _ _ h => h) (Or.inl ⟨by rfl, ?_⟩) (by assumption) ?_
      rotate_left
      · (intro w hSw; (try dsimp only at hSw); go_simp <;> with_reducible rfl)
      (try simp only [Act.put, List.setIfInBounds_toArray, List.set_cons_zero, List.set_cons_succ])
      refine wpAnyH_take (i := 18) (oi := { dst := some 35, op := Op.move (Operand.tmp 5), type := 3, pos := "laws.go:582", after := #[{ on := 11, ground := Ground.guard }], guard := some (11, false) }) (v := ?_) rfl (by kernel_rfl) (by kernel_rfl) (by kernel_rfl) (fun _ _ _ h => h) (Or.inl ⟨by rfl, ?_⟩) (by assumption) ?_
      rotate_left
      · (intro w hSw; (try dsimp only at hSw); go_simp <;> with_reducible rfl)
      (try simp only [Act.put, List.setIfInBounds_toArray, List.set_cons_zero, List.set_cons_succ])
      refine wpAnyH_take (i := 19) (oi := { dst := some 36, op := Op.indexAddr 41 (Operand.tmp 34) (Operand.tmp 35), type := 0, pos := "laws.go:582", after := #[{ on := 17, ground := Ground.data }, { on := 18, ground := Ground.data }, { on := 11, ground := Ground.guard }], guard := some (11, false) }) (v := ?_) rfl (by kernel_rfl) (by kernel_rfl) (by kernel_rfl) (fun _ _ _ h => h) (Or.inl ⟨by rfl, ?_⟩) (by assumption) ?_
      rotate_left
      · (intro w hSw; (try dsimp only at hSw); go_simp <;> with_reducible rfl)
      (try simp only [Act.put, List.setIfInBounds_toArray, List.set_cons_zero, List.set_cons_succ])
      refine wpAnyH_take (i := 20) (oi := { dst := some 37, op := Op.fieldAddr 47 (Operand.tmp 36) 1, type := 0, pos := "laws.go:582", after := #[{ on := 19, ground := Ground.data }, { on := 11, ground := Ground.guard }], guard := some (11, false) }) (v := ?_) rfl (by kernel_rfl) (by kernel_rfl) (by kernel_rfl) (fun _ _ _ h => h) (Or.inl ⟨by rfl, ?_⟩) (by assumption) ?_
      rotate_left
      · (intro w hSw; (try dsimp only at hSw); go_simp <;> with_reducible rfl)
      (try simp only [Act.put, List.setIfInBounds_toArray, List.set_cons_zero, List.set_cons_succ])
      refine wpAnyH_take (i := 21) (oi := { dst := some 38, op := Op.load 29 (Operand.tmp 37), type := 29, pos := "laws.go:582", after := #[{ on := 20, ground := Ground.data }, { on := 11, ground := Ground.guard }], guard := some (11, false) }) (v := ?_) rfl (by kernel_rfl) (by kernel_rfl) (by kernel_rfl) (fun _ _ _ h => h) (Or.inl ⟨by rfl, ?_⟩) (by assumption) ?_
      rotate_left
      · (intro w hSw; (try dsimp only at hSw); go_simp <;> with_reducible rfl)
      (try simp only [Act.put, List.setIfInBounds_toArray, List.set_cons_zero, List.set_cons_succ])
      refine wpAnyH_ready (rs := [22]) (by kernel_rfl) (by simp) ?_
      refine AllReadyH.cons (o := { dst := some 39, op := Op.call { callee := Callee.value (Operand.func 15), args := #[Operand.tmp 33, Operand.tmp 38], argTypes := #[29, 29] }, type := 4, pos := "laws.go:582", after := #[{ on := 16, ground := Ground.data }, { on := 21, ground := Ground.data }, { on := 11, ground := Ground.chain }, { on := 11, ground := Ground.guard }], guard := some (11, false) }) rfl (fun K hK => ?_) AllReadyH.nil
      go_simp
      go_wp2_with fail
      refine (HST.out _ (Below.refl _ _).drew).mono ?_
      rintro e w5 ⟨rfl, hB5⟩
      have hb5 : Below wr.heap.size wr w5 := (Below.refl _ _).drew.trans hB5
      have HB5 := Lib.hid hb5
      have f1 := keep1 hb5 d1
      have f2 := keep1 hb5 d2
      have f3 := keep1 hb5 d3
      have f4 := keep1 hb5 d4
      clear hB5 hb5
      go_wp2_with fail
      refine hK.out _ _ ?_ (fun hHeld => ?_)
      · exact ⟨f1, f2, f3, f4⟩
      clear hK K
      (try simp only [Act.put, List.setIfInBounds_toArray, List.set_cons_zero, List.set_cons_succ])
      refine wpAnyH_take (i := 23) (oi := { dst := some 40, op := Op.unOp UnOp.not 4 (Operand.tmp 39), type := 4, pos := "laws.go:582", after := #[{ on := 22, ground := Ground.data }, { on := 11, ground := Ground.guard }], guard := some (11, false) }) (v := ?_) rfl (by kernel_rfl) (by kernel_rfl) (by kernel_rfl) (fun _ _ _ h => h) (Or.inl ⟨by rfl, ?_⟩) (by assumption) ?_
      rotate_left
      · (intro w hSw; (try dsimp only at hSw); go_simp <;> with_reducible rfl)
      (try simp only [Act.put, List.setIfInBounds_toArray, List.set_cons_zero, List.set_cons_succ])
      refine wpAnyH_take (i := 24) (oi := { dst := some 41, op := Op.pick (Operand.tmp 28) (Operand.const (Value.bool true)) (Operand.tmp 40), type := 4, pos := "laws.go:582", after := #[{ on := 11, ground := Ground.data }, { on := 23, ground := Ground.data }], guard := none }) (v := ?_) rfl (by kernel_rfl) (by kernel_rfl) (by kernel_rfl) (fun _ _ _ h => h) (Or.inl ⟨by rfl, ?_⟩) (by assumption) ?_
      rotate_left
      · (intro w hSw; (try dsimp only at hSw); go_simp <;> with_reducible rfl)
      (try simp only [Act.put, List.setIfInBounds_toArray, List.set_cons_zero, List.set_cons_succ])
      refine wpAnyH_done (by kernel_rfl) ?_ _
      all_goals
        go_wp2_with fail
        go_roundw
        case rel => exact ⟨k + 1, by omega, by go_num, HBR.out.trans (HB5.out.mono HBR.out.size)⟩
        case measure => simp [intOf]; omega
    · clear hB
      go_wp2_with fail
      go_ret
      exact ⟨rfl, HBR.out⟩

theorem plTxs_node2 (p s : ByteArray) : ∀ x ∈ plTxs p s, x.1 ≤ 100 := by
  intro x hx
  obtain ⟨j, hj, rfl⟩ := List.getElem_of_mem hx
  exact (place_told j hj).choose_spec.2.2.2.1

set_option maxRecDepth 100000 in
set_option maxHeartbeats 2000000 in
theorem pPlaces_any (bs : List Nat) (a : Option Addr) (cap : Nat) (w : World) (hl : LiesB w a bs) (h8 : ∀ z ∈ bs, z ≤ 255) (hn : bs.length ≤ 9223372036854775807) (hcap : bs.length ≤ cap) :
    Calls Try.prog 7 #[.slice a bs.length cap] w (Ans (.bool true) w) := by
  by_cases h : bs.length ≤ 1048576
  · have HD := Lib.hid (dPlaces_any bs a cap w hn hcap h8 hl)
    clear h8 hl
    go_enter Try.func7, Try.ntmps7
    go_wp2_with fail
    refine HD.out.mono ?_
    rintro e w1 ⟨hB1, p, s, rfl, hp, hs⟩
    have HB1 := Lib.hid hB1
    have A1_1 := Lib.hid (Below.refl w1.heap.size w1)
    clear hB1
    obtain ⟨ks, hks⟩ : ∃ ks, ks = plTxs p s := ⟨_, rfl⟩
    obtain ⟨n, hn⟩ : ∃ n, n = ks.length := ⟨_, rfl⟩
    obtain ⟨f, hf⟩ : ∃ f, f = (plV p s).isSome := ⟨_, rfl⟩
    have hok := plTxs_ok p s
    have hnd := plTxs_node2 p s
    have hpl : ∀ j (hj : j < ks.length), ∃ y : ByteArray, graftV (wholeOf p.data.toList (ks[j]).2) = .tuple #[.string y, .bool true] ∧ partV (cutOf s.data.toList (((ks[j]).1 : Nat) : Int)) = .tuple #[.string y, .bool true] ∧ putV p s (((ks[j]).1 : Nat) : Int) p = .tuple #[.string s, .bool true] ∧ (ks[j]).1 ≤ 100 ∧ (ks[j]).2.length ≤ 100 ∧ ∀ i (h : i < (ks[j]).2.length), ((ks[j]).2[i]).length ≤ 1048576 := by
      intro j hj; subst hks; exact place_told j hj
    rw [← hks] at hok hnd
    have HKB : Hid (∀ x ∈ ks, x.2.length ≤ 100 ∧ x.1 ≤ 100) := Lib.hid (fun x hx => ⟨(hok.2 x hx).2, hnd x hx⟩)
    have hn100 : n ≤ 100 := by rw [hn]; exact hok.1
    have HPL := Lib.hid hpl
    have HNN := Lib.hid hn
    have hI : ∀ W : World, Calls Try.prog 26 #[.string p, .string s] W (PlsL ks n f W) := fun W => by have h := iPl_any p s W (by omega) (by omega); rw [← hks, ← hn, ← hf] at h; exact h
    have hS : ∀ W : World, Calls Try.prog 27 #[.string p, .string s] W (PlsS ks f W) := fun W => by have h := sPlaces_any p s W (by omega) (by omega); rw [← hks, ← hf] at h; exact h
    have HI := Lib.hid hI
    have HS := Lib.hid hS
    clear hok hnd hpl hI hS hf hks hn
    go_wp2_with fail
    refine (HI.out w1).mono ?_
    rintro e w2 ⟨hB, us, ax, cx, rfl, hul, _, hx, _⟩
    clear hul
    have A1_2 := Lib.hid (below_step A1_1.out hB)
    have HB2 := Lib.hid (below_step HB1.out hB)
    have HX := Lib.hid hx
    clear hx
    clear hB
    have A2_2 := Lib.hid (Below.refl w2.heap.size w2)
    go_wp2_with fail
    refine (HS.out w2).mono ?_
    rintro e w3 ⟨hB, ay, ny, cy, rfl, hny, hy⟩
    have A1_3 := Lib.hid (below_step A1_2.out hB)
    have A2_3 := Lib.hid (below_step A2_2.out hB)
    have HB3 := Lib.hid (below_step HB2.out hB)
    rw [← HNN.out] at hny
    subst hny
    have HY := Lib.hid hy
    clear hy
    clear hB
    have A3_3 := Lib.hid (Below.refl w3.heap.size w3)
    cases f with
    | false =>
      go_wp2_with fail
      refine (samePlaces_any ks ny HNN.out ax ay cx cy w3 (by omega) HKB.out (HX.out.below (by decide) A2_3.out) (HY.out.below (by decide) A3_3.out)).mono ?_
      rintro e w4 ⟨rfl, hB⟩
      have A1_4 := Lib.hid (below_step A1_3.out hB)
      have A2_4 := Lib.hid (below_step A2_3.out hB)
      have A3_4 := Lib.hid (below_step A3_3.out hB)
      have HB4 := Lib.hid (below_step HB3.out hB)
      clear hB
      go_wp2_with fail
      refine (samePlaces_any ks ny HNN.out ax ay cx cy w4 (by omega) HKB.out (HX.out.below (by decide) A2_4.out) (HY.out.below (by decide) A3_4.out)).mono ?_
      rintro e w5 ⟨rfl, hB⟩
      have A1_5 := Lib.hid (below_step A1_4.out hB)
      have A2_5 := Lib.hid (below_step A2_4.out hB)
      have A3_5 := Lib.hid (below_step A3_4.out hB)
      have HB5 := Lib.hid (below_step HB4.out hB)
      clear hB
      go_wp2_with fail
      go_ret
      exact ⟨rfl, HB5.out⟩
    | true =>
      go_wp2_with fail
      refine (samePlaces_any ks ny HNN.out ax ay cx cy w3 (by omega) HKB.out (HX.out.below (by decide) A2_3.out) (HY.out.below (by decide) A3_3.out)).mono ?_
      rintro e w4 ⟨rfl, hB⟩
      have A1_4 := Lib.hid (below_step A1_3.out hB)
      have A2_4 := Lib.hid (below_step A2_3.out hB)
      have A3_4 := Lib.hid (below_step A3_3.out hB)
      have HB4 := Lib.hid (below_step HB3.out hB)
      clear hB
      go_wp2_with fail
      go_loopw [9] (fun iv wr => ∃ k : Nat, k ≤ ny ∧ iv = .int .i64 k ∧ Below w4.heap.size w4 wr) (fun iv _ => ny - (intOf iv).toNat)
      case atStart => exact ⟨0, by omega, rfl, Below.refl _ _⟩
      case round =>
        obtain ⟨k, hk, rfl, hB⟩ := hrel
        have HBR := Lib.hid hB
        by_cases hlt : k < ny
        · have hkx : k < ks.length := by rw [← HNN.out]; exact hlt
          obtain ⟨g1, g1', c1, rfl, d1, d2, l1⟩ := plE.rd (HX.out.below (by decide) (below_step A2_4.out hB)) k hkx
          obtain ⟨y, h1, h2, h3, h4, h5, h6⟩ := HPL.out k hkx
          have HWH : Hid (∀ W : World, Below wr.heap.size wr W → Calls Try.prog 29 #[.string p, .slice (some ⟨g1', 0, none⟩) (ks[k]).2.length c1] W (Ans (.tuple #[.string y, .bool true]) W)) := Lib.hid (fun W hb => (iWhole_any p (ks[k]).2 (some ⟨g1', 0, none⟩) c1 W (by omega) (by omega) h6 (l1.below hb)).mono fun _ _ h => Ans.isP h h1)
          obtain ⟨m, hm⟩ : ∃ m, m = (ks[k]).2.length := ⟨_, rfl⟩
          obtain ⟨nd, hnd⟩ : ∃ nd, nd = (ks[k]).1 := ⟨_, rfl⟩
          rw [← hm] at d2 HWH
          rw [← hnd] at d1 h2 h3 h4
          have H2 := Lib.hid h2
          have H3 := Lib.hid h3
          have k0 : (0 : Int) ≤ (k : Int) := by omega
          clear hB h1 h2 h3 h5 h6 l1 hm hnd
          go_wp2_with fail
          refine (HWH.out wr (Below.refl _ _)).mono ?_
          rintro e u1 ⟨rfl, hB⟩
          have U1 := Lib.hid (below_step HBR.out hB)
          have d3 := keep1 hB d1
          clear hB
          go_wp2_with fail
          refine ((iPart_any s (nd : Int) u1 (by omega) (by omega)).mono fun _ _ h => Ans.isP h H2.out).mono ?_
          rintro e u2 ⟨rfl, hB⟩
          have U2 := Lib.hid (below_step U1.out hB)
          have d4 := keep1 hB d3
          clear hB
          go_wp2_with fail
          refine ((iPut_any p s p (nd : Int) u2 (by omega) (by omega) (by omega) (by omega)).mono fun _ _ h => Ans.isP h H3.out).mono ?_
          rintro e u3 ⟨rfl, hB⟩
          have U3 := Lib.hid (below_step U2.out hB)
          clear hB
          go_wp2_with fail
          go_roundw
          case rel => exact ⟨k + 1, by omega, by go_num, U3.out⟩
          case measure => simp [intOf]; omega
        · clear hB
          go_wp2_with fail
          go_ret
          exact ⟨rfl, below_step HB4.out HBR.out⟩
  · clear hl h8
    go_enter Try.func7, Try.ntmps7
    go_wp2_with fail
    go_ret
    exact ⟨rfl, Below.refl _ _⟩

end Go.Proofs.Ytfjodghnheliaaa
