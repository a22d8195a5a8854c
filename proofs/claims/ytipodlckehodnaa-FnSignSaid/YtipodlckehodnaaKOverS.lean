/- Merged out of: XOverS, XLawOverC, XLawOver. -/
import Derived.Test.YtipodlckehodnaaKOverI
import Derived.Test.YtipodlckehodnaaKPartS
import Derived.Test.YtipodlckehodnaaKSym
section
/- Is a tree over a signature? By the model; both say the same. -/
namespace Go.Proofs.Ytipodlckehodnaa
open Go.RowKit Go.Maps

/-- A symbol of the list is this letter with this arity. -/
def hasSym (ys : List (ByteArray × Int)) (y : UInt8 × Nat) : Prop := ∃ j, ∃ h : j < ys.length, (ys[j]).1 = ⟨#[y.1]⟩ ∧ (ys[j]).2 = (y.2 : Int)

def overS (ys : List (ByteArray × Int)) (t : T) : Prop := ∀ y ∈ t.pre, hasSym ys y

theorem overS_leaf (ys : List (ByteArray × Int)) : overS ys .leaf := fun y h => by simp [T.pre] at h
theorem preL_mem {ks : List T} {y : UInt8 × Nat} : y ∈ T.preL ks ↔ ∃ j, ∃ h : j < ks.length, y ∈ (ks[j]).pre := by
  induction ks with
  | nil => simp [T.preL]
  | cons k ks ih =>
    simp only [T.preL, List.mem_append, ih]
    constructor
    · rintro (h | ⟨j, hj, h⟩)
      · exact ⟨0, by simp, h⟩
      · exact ⟨j + 1, by simpa using hj, by simpa using h⟩
    · rintro ⟨j, hj, h⟩
      cases j with
      | zero => exact .inl h
      | succ j => exact .inr ⟨j, by simpa using hj, by simpa using h⟩
theorem overS_node (ys : List (ByteArray × Int)) (c : UInt8) (ks : List T) : overS ys (.node c ks) ↔ hasSym ys (c, ks.length) ∧ ∀ j (h : j < ks.length), overS ys ks[j] := by
  unfold overS
  simp only [T.pre, List.mem_cons]
  constructor
  · intro h
    exact ⟨h _ (.inl rfl), fun j hj y hy => h y (.inr (preL_mem.2 ⟨j, hj, hy⟩))⟩
  · rintro ⟨h1, h2⟩ y (rfl | hy)
    · exact h1
    · obtain ⟨j, hj, hy⟩ := preL_mem.1 hy
      exact h2 j hj y hy

/-- What the map of a signature says of a letter. -/
theorem atKey_signD (s : ByteArray) (ys : List (ByteArray × Int)) (z : DataW Unit) : ∀ k, k ≤ ys.length → SignTo ys k →
    ((∃ j, ∃ h : j < ys.length, j < k ∧ (ys[j]).1 = s ∧ (signD (ys.take k)).atKey (keyL s) z = arL (ys[j]).2) ∨ ((∀ j (h : j < ys.length), j < k → (ys[j]).1 ≠ s) ∧ (signD (ys.take k)).atKey (keyL s) z = z)) := by
  intro k
  induction k with
  | zero => intro _ _; exact .inr ⟨fun j _ h => by omega, rfl⟩
  | succ k ih =>
    intro hk hto
    have hk' : k < ys.length := by omega
    have hto' : SignTo ys k := fun i hi hik => hto i hi (by omega)
    rw [List.take_succ_eq_append_getElem hk', signD_snoc]
    by_cases e : (ys[k]).1 = s
    · refine .inl ⟨k, hk', by omega, e, ?_⟩
      rw [e, atKey_put_same (signD_isMap _) (keyL_is _)]
    · rw [atKey_put_other (fun h => e (keyL_inj h).symm)]
      rcases ih (by omega) hto' with ⟨j, h, h1, h2, h3⟩ | ⟨h1, h2⟩
      · exact .inl ⟨j, h, by omega, h2, h3⟩
      · refine .inr ⟨fun j h hj => ?_, h2⟩
        by_cases e2 : j = k
        · subst e2; exact e
        · exact h1 j h (by omega)

theorem arL_inj {a b : Int} (h : arL a = arL b) : a = b := by simpa [arL] using h

theorem okNode_iff {ys : List (ByteArray × Int)} (hs : SignOk ys) {y : UInt8 × Nat} (hy : 1 ≤ y.2) : okNode (signD ys) y ↔ hasSym ys y := by
  have h := atKey_signD ⟨#[y.1]⟩ ys (arL 0) ys.length (Nat.le_refl _) hs.2
  rw [List.take_length] at h
  unfold okNode hasSym
  rcases h with ⟨j, hj, _, h1, h2⟩ | ⟨h1, h2⟩
  · rw [h2]
    constructor
    · exact fun h => ⟨j, hj, h1, arL_inj h⟩
    · rintro ⟨i, hi, e1, e2⟩
      have : i = j := by
        rcases Nat.lt_trichotomy i j with h | h | h
        · exact absurd (e1.trans h1.symm) ((hs.2 j hj hj).2 i h)
        · exact h
        · exact absurd (h1.trans e1.symm) ((hs.2 i hi hi).2 j h)
      subst this
      rw [e2]
  · rw [h2]
    constructor
    · intro h
      have := arL_inj h
      omega
    · rintro ⟨i, hi, e1, _⟩
      exact absurd e1 (h1 i hi hi)

mutual
theorem pre_pos : ∀ (t : T), t.wf → ∀ y ∈ t.pre, 1 ≤ y.2
  | .leaf, _, y, h => by simp [T.pre] at h
  | .node c ks, hw, y, h => by
    rw [T.wf] at hw
    simp only [T.pre, List.mem_cons] at h
    rcases h with rfl | h
    · have := hw.2.2.1; simpa using this
    · exact preL_pos ks hw.2.2.2.2 y h
theorem preL_pos : ∀ (ks : List T), T.wfL ks → ∀ y ∈ T.preL ks, 1 ≤ y.2
  | [], _, y, h => by simp [T.preL] at h
  | k :: ks, hw, y, h => by
    rw [T.wfL] at hw
    simp only [T.preL, List.mem_append] at h
    rcases h with h | h
    · exact pre_pos k hw.1 y h
    · exact preL_pos ks hw.2 y h
end

theorem over_iff {ys : List (ByteArray × Int)} {t : T} (hs : SignOk ys) (hw : t.wf) : overD (signD ys) t ↔ overS ys t := by
  unfold overD overS
  exact ⟨fun h y hy => (okNode_iff hs (pre_pos t hw y hy)).1 (h y hy), fun h y hy => (okNode_iff hs (pre_pos t hw y hy)).2 (h y hy)⟩

set_option maxRecDepth 100000 in
set_option maxHeartbeats 4000000 in
theorem l2Over_any (ys : List (ByteArray × Int)) (n : Nat) (hny : n = ys.length) (g cap : Nat) (hn : n ≤ 1048576) (har : Arities ys) (m : Nat) : ∀ (t : T) (l s : Value) (w : World) (P : Nat → Prop), SizeOf.sizeOf t ≤ m → t.wf → RepS w P t l s → SymL w g ys →
    Calls Try.prog 87 #[.slice (some ⟨g, 0, none⟩) n cap, .agg #[l, s]] w fun e w' => Below w.heap.size w w' ∧ ∃ b, e = .returned (.bool b) ∧ (b = true ↔ overS ys t) := by
  induction m with
  | zero => intro t l s w P h; cases t <;> simp at h <;> omega
  | succ m ih =>
    intro t l s w P hm hwf hr hl
    cases t with
    | leaf =>
      rw [RepS] at hr
      obtain ⟨rfl, rfl⟩ := hr
      have HO := Lib.hid (overS_leaf ys)
      clear ih hl hny har
      go_enter Try.func87, Try.ntmps87
      go_wp2_with fail
      go_ret
      exact ⟨(Below.refl _ _).alloc (Nat.le_refl _) _, true, rfl, by simp; exact HO.out⟩
    | node c ks =>
      rw [RepS] at hr
      obtain ⟨rfl, gk, capk, rfl, hP, hk6, hL⟩ := hr
      rw [T.wf] at hwf
      have hwk := hwf.2.2.2.2
      have hd : ∀ (j : Nat) (h : j < ks.length), SizeOf.sizeOf ks[j] ≤ m := fun j h => by
        have := List.sizeOf_lt_of_mem (List.getElem_mem h)
        simp only [T.node.sizeOf_spec] at hm
        omega
      obtain ⟨s, hs⟩ : ∃ s : ByteArray, s = ⟨#[c]⟩ := ⟨_, rfl⟩
      rw [← hs]
      have hs0 : (s.toList == []) = false := by rw [hs, ByteArray.toList_eq]; rfl
      have HS := Lib.hid hs
      obtain ⟨kl, hkl⟩ : ∃ kl, kl = ks.length := ⟨_, rfl⟩
      rw [← hkl]
      have HKL := Lib.hid hkl
      have hkl6 : kl ≤ 6 := by omega
      have HNN := Lib.hid hny
      have HSL := Lib.hid hl
      have HAR := Lib.hid har
      have HIH := Lib.hid ih
      have HD := Lib.hid hd
      have HL := Lib.hid hL
      have HWK := Lib.hid hwk
      have hb1 : Below w.heap.size w (w.alloc (.cells #[.string s, .slice (some ⟨gk, 0, none⟩) kl capk] 88 (0, 0))) := (Below.refl _ _).alloc (Nat.le_refl _) _
      have hx := heap_alloc_new w (.cells #[.string s, .slice (some ⟨gk, 0, none⟩) kl capk] 88 (0, 0))
      have HX := Lib.hid hx
      have HB1 := Lib.hid hb1
      clear ih hny hl har hd hL hwk hwf hs hkl hk6 hx hb1 hm
      go_enter Try.func87, Try.ntmps87
      go_wp2_with fail
      go_loopw [5, 6] (fun fv iv wr => ∃ (k : Nat) (f : Bool), k ≤ n ∧ iv = .int .i64 k ∧ fv = .bool f ∧ (f = true ↔ ∃ j, ∃ h : j < ys.length, j < k ∧ (ys[j]).1 = s ∧ (ys[j]).2 = (kl : Int)) ∧ Below (w.alloc (.cells #[.string s, .slice (some ⟨gk, 0, none⟩) kl capk] 88 (0, 0))).heap.size (w.alloc (.cells #[.string s, .slice (some ⟨gk, 0, none⟩) kl capk] 88 (0, 0))) wr) (fun _ iv _ => n - (intOf iv).toNat)
      case atStart => exact ⟨0, false, Nat.zero_le _, rfl, rfl, by simp, Below.refl _ _⟩
      case round =>
        obtain ⟨k, f, hk, rfl, rfl, hf, hB⟩ := hrel
        have HF := Lib.hid hf
        have HBB := Lib.hid hB
        have HBW := Lib.hid (below_step HB1.out hB)
        have hx2 := (hB.block w.heap.size (by simp)).trans HX.out
        obtain ⟨x0, x1, _, _⟩ := two_cells hx2
        clear hf hB hx2
        by_cases hlt : k < n
        · have hlt' : k < ys.length := by rw [← HNN.out]; exact hlt
          obtain ⟨c1, c2⟩ := (HSL.out.below HBW.out) k hlt'
          obtain ⟨l, hl⟩ : ∃ l, l = (ys[k]).1 := ⟨_, rfl⟩
          obtain ⟨x, hx⟩ : ∃ x, x = (ys[k]).2 := ⟨_, rfl⟩
          rw [← hl] at c1
          rw [← hx] at c2
          have HLL := Lib.hid hl
          have HXX := Lib.hid hx
          have k0 : (0 : Int) ≤ k := by omega
          clear hl hx
          have HNX : Hid (∀ f' : Bool, (f' = true ↔ (f = true ∨ (l = s ∧ x = (kl : Int)))) → (f' = true ↔ ∃ j, ∃ h : j < ys.length, j < k + 1 ∧ (ys[j]).1 = s ∧ (ys[j]).2 = (kl : Int))) := Lib.hid (fun f' hf' => by
            rw [hf', HF.out]
            constructor
            · rintro (⟨j, h, h1, h2⟩ | ⟨h1, h2⟩)
              · exact ⟨j, h, by omega, h2⟩
              · exact ⟨k, hlt', by omega, by rw [← HLL.out]; exact h1, by rw [← HXX.out]; exact h2⟩
            · rintro ⟨j, h, h1, h2, h3⟩
              by_cases e : j = k
              · subst e; exact .inr ⟨by rw [HLL.out]; exact h2, by rw [HXX.out]; exact h3⟩
              · exact .inl ⟨j, h, by omega, h2, h3⟩)
          cases f
          · by_cases hls : l = s
            · by_cases hxk : x = (kl : Int)
              · have HN := Lib.hid (HNX.out true (by simp [hls, hxk]))
                subst hls hxk
                go_wp2_with fail
                go_quiet (fail)
                go_wp2_with fail
                exact ⟨⟨k + 1, true, by omega, by go_num, rfl, by simpa using HN.out, below_drewN HBB.out _⟩, by simp [intOf]; omega⟩
              · have HN := Lib.hid (HNX.out false (by simp [hxk]))
                have hxb : (x == (kl : Int)) = false := by simpa using hxk
                subst hls
                clear hxk
                go_wp2_with fail
                go_quiet (fail)
                go_wp2_with fail
                exact ⟨⟨k + 1, false, by omega, by go_num, rfl, HN.out, below_drewN HBB.out _⟩, by simp [intOf]; omega⟩
            · have HN := Lib.hid (HNX.out false (by simp [hls]))
              have hsb : (l.toList == s.toList) = false := ba_ne hls
              clear hls
              go_wp2_with fail
              go_quiet (fail)
              go_wp2_with fail
              exact ⟨⟨k + 1, false, by omega, by go_num, rfl, HN.out, below_drewN HBB.out _⟩, by simp [intOf]; omega⟩
          · have HN := Lib.hid (HNX.out true (by simp))
            go_wp2_with fail
            go_quiet (fail)
            go_wp2_with fail
            exact ⟨⟨k + 1, true, by omega, by go_num, rfl, by simpa using HN.out, below_drewN HBB.out _⟩, by simp [intOf]; omega⟩
        · have hkn : k = n := by omega
          subst hkn
          have HSY : Hid (f = true ↔ hasSym ys (c, ks.length)) := Lib.hid (HF.out.trans (by
            unfold hasSym
            rw [← HKL.out]
            constructor
            · rintro ⟨j, h, _, h1, h2⟩; exact ⟨j, h, by rw [h1]; exact HS.out, h2⟩
            · rintro ⟨j, h, h1, h2⟩; exact ⟨j, h, by have := HNN.out; omega, by rw [h1]; exact HS.out.symm, h2⟩))
          clear hs0
          go_wp2_with fail
          go_loopw [5, 7] (fun fv iv wq => ∃ (i : Nat) (f' : Bool), i ≤ kl ∧ iv = .int .i64 i ∧ fv = .bool f' ∧ (f' = true ↔ (f = true ∧ ∀ j (h : j < ks.length), j < i → overS ys ks[j])) ∧ Below wr.heap.size wr wq) (fun _ iv _ => kl - (intOf iv).toNat)
          case atStart => exact ⟨0, f, Nat.zero_le _, rfl, rfl, by simp, Below.refl _ _⟩
          case round =>
            obtain ⟨i, f', hi, rfl, rfl, hf', hBq⟩ := hrel
            have HF' := Lib.hid hf'
            have HBQ := Lib.hid hBq
            have HBQW := Lib.hid (below_step HBW.out hBq)
            have z0 := keep1 hBq x0
            have z1 := keep1 hBq x1
            clear hf' hBq
            by_cases hlti : i < kl
            · cases f'
              · have HFN : Hid (¬ overS ys (.node c ks)) := Lib.hid (fun h => by
                  have h2 := (overS_node ys c ks).1 h
                  have := HF'.out.2 ⟨HSY.out.2 h2.1, fun j hj _ => h2.2 j hj⟩
                  cases this)
                go_wp2_with fail
                go_ret
                exact ⟨HBQW.out, false, rfl, by simp; exact HFN.out⟩
              · have hli : i < ks.length := by rw [← HKL.out]; exact hlti
                obtain ⟨l', s', d1, d2, d3⟩ := (HL.out.keep (Keeps.of_below HBQW.out P) (fun _ h _ => h) hP HWK.out).get i hli
                simp only [Nat.zero_add] at d1 d2
                obtain ⟨kb, ka, kn, kc, rfl, rfl⟩ := d3.shape'
                have HC := Lib.hid (HIH.out ks[i] _ _ _ P (HD.out i hli) (wfL_get HWK.out i hli) d3 (HSL.out.below HBQW.out))
                clear d3
                go_wp2_with fail
                refine HC.out.mono ?_
                rintro e w5 ⟨hB5, b, rfl, hb⟩
                have HB5 := Lib.hid (below_step HBQ.out hB5)
                have HV := Lib.hid hb
                clear hB5 hb
                go_wp2_with fail
                have HIF : Hid (b = true ↔ (f = true ∧ ∀ j (h : j < ks.length), j < i + 1 → overS ys ks[j])) := Lib.hid (by
                  rw [HV.out]
                  have h0 : f = true ∧ ∀ j (h : j < ks.length), j < i → overS ys ks[j] := by simpa using HF'.out
                  constructor
                  · exact fun h => ⟨h0.1, fun j hj hji => by
                      by_cases e : j = i
                      · subst e; exact h
                      · exact h0.2 j hj (by omega)⟩
                  · exact fun h => h.2 i hli (by omega))
                exact ⟨⟨i + 1, b, by omega, by go_num, rfl, HIF.out, HB5.out⟩, by simp [intOf]; omega⟩
            · have hik : i = kl := by omega
              have HFN : Hid (f' = true ↔ overS ys (.node c ks)) := Lib.hid (by
                rw [HF'.out, HSY.out, overS_node]
                constructor
                · exact fun h => ⟨h.1, fun j hj => h.2 j hj (by have := HKL.out; omega)⟩
                · exact fun h => ⟨h.1, fun j hj _ => h.2 j hj⟩)
              go_wp2_with fail
              go_ret
              exact ⟨HBQW.out, f', rfl, HFN.out⟩
end Go.Proofs.Ytipodlckehodnaa
end
section
/- SignOver by the model, and the law. -/
namespace Go.Proofs.Ytipodlckehodnaa
open Go.RowKit

/-- What both answer. -/
def OverPost (ys : List (ByteArray × Int)) (s : ByteArray) (w : World) (e : Ending) (w' : World) : Prop :=
  Below w.heap.size w w' ∧ ∃ b, e = .returned (.bool b) ∧ (b = true ↔ SignOk ys ∧ ∃ t, parse s.data.toList = some t ∧ overD (signD ys) t)

set_option maxRecDepth 100000 in
set_option maxHeartbeats 1000000 in
theorem sSignOver_any (ys : List (ByteArray × Int)) (n : Nat) (hny : n = ys.length) (g cap : Nat) (s : ByteArray) (w : World) (hs : s.size ≤ 140737488351232) (hn : n ≤ 1048576) (hz : ∀ j (h : j < ys.length), (ys[j]).1.size ≤ 1048576) (har : Arities ys) (hl : SymL w g ys) :
    Calls Try.prog 42 #[.slice (some ⟨g, 0, none⟩) n cap, .string s] w (OverPost ys s w) := by
  have HSL := Lib.hid hl
  have HV0 := Lib.hid (fun w hh => sSignValid_any ys n hny g cap w hn hz hh)
  have HO0 := Lib.hid (fun t l s w P ht hr hh => l2Over_any ys n hny g cap hn har _ t l s w P (Nat.le_refl _) ht hr hh)
  clear hl hz har hny
  go_enter Try.func42, Try.ntmps42
  go_wp2_with fail
  refine (l1Parse_any s w hs).mono ?_
  rintro e w1 ⟨hB, lb, sa, sn, sc, b, rfl, hres⟩
  have HB := Lib.hid hB
  have HA1 : Hid (Below w1.heap.size w1 (w1.alloc (.cells #[.string lb, .slice sa sn sc] 88 (0, 0)))) := Lib.hid ((Below.refl _ _).alloc (Nat.le_refl _) _)
  have HBA := Lib.hid (below_step HB.out HA1.out)
  have HX := Lib.hid (heap_alloc_new w1 (.cells #[.string lb, .slice sa sn sc] 88 (0, 0)))
  clear hB
  rcases hres with ⟨hno, rfl⟩ | ⟨t, hyes, rfl, hrep⟩
  · have HN := Lib.hid hno
    clear hno
    go_wp2_with fail
    go_ret
    refine ⟨HBA.out, false, rfl, ?_⟩
    simp only [Bool.false_eq_true, false_iff]
    rintro ⟨_, t, ht, _⟩
    rw [HN.out] at ht; cases ht
  · have hw := (parse_some hyes).1
    have HYT := Lib.hid hyes
    have HW := Lib.hid hw
    have HRT := Lib.hid (hrep.below hw HA1.out)
    have HV := Lib.hid (HV0.out _ (HSL.out.below HBA.out))
    clear hyes hrep hw
    go_wp2_with fail
    refine HV.out.mono ?_
    rintro e w2 ⟨hB2, bv, rfl, hbv⟩
    have HBV := Lib.hid hbv
    have HB2 := Lib.hid (below_step HBA.out hB2)
    cases bv
    · clear hB2 hbv
      go_wp2_with fail
      go_ret
      refine ⟨HB2.out, false, rfl, ?_⟩
      simp only [Bool.false_eq_true, false_iff]
      rintro ⟨h, _⟩
      have := HBV.out.2 h
      cases this
    · have hx := (hB2.block w1.heap.size (by simp)).trans HX.out
      obtain ⟨x0, x1, _, _⟩ := two_cells hx
      have HC := Lib.hid (HO0.out t _ _ w2 _ HW.out (HRT.out.below HW.out hB2) (HSL.out.below HB2.out))
      clear hB2 hbv hx
      go_wp2_with fail
      refine HC.out.mono ?_
      rintro e w3 ⟨hB3, bo, rfl, hbo⟩
      have HB3 := Lib.hid (below_step HB2.out hB3)
      have HBO := Lib.hid hbo
      clear hB3 hbo
      go_wp2_with fail
      go_ret
      have hsig : SignOk ys := by simpa using HBV.out
      refine ⟨HB3.out, bo, rfl, HBO.out.trans ?_⟩
      constructor
      · exact fun h => ⟨hsig, t, HYT.out, (over_iff hsig HW.out).2 h⟩
      · rintro ⟨_, u, hu, h⟩
        rw [HYT.out] at hu
        cases hu
        exact (over_iff hsig HW.out).1 h

end Go.Proofs.Ytipodlckehodnaa
end
section
/- SignOver by the model, and the law. (what the exact laws want besides) -/
namespace Go.Proofs.Ytipodlckehodnaa
open Go.RowKit

end Go.Proofs.Ytipodlckehodnaa
end
