/- Merged out of: XFreeM, XFreeS. -/
import Derived.Test.YtfjodghnheliaaaKStand
import Derived.Test.YtfjodghnheliaaaPutI
import Derived.Test.YtfjodghnheliaaaMatS
import Derived.Test.YtfjodghnheliaaaJoinS
section
/- Free of patterns: plain mathematics, and the programs' answers. -/
namespace Go.Proofs.Ytfjodghnheliaaa
open Go.RowKit

theorem flatten_nil_iff {ps : List T} {x : T} {a k : Nat} (hk : k ≤ ps.length) : stRow ps x a k = [] ↔ ∀ i (h : i < ps.length), i < k → (ps[i]).partsOf x = none := by
  induction k with
  | zero => simp [stRow]
  | succ k ih =>
    rw [stRow_succ, List.append_eq_nil_iff, ih (by omega)]
    constructor
    · rintro ⟨h1, h2⟩ i hi hlt
      by_cases e : i = k
      · subst e
        cases hp : (ps[i]).partsOf x with
        | none => rfl
        | some ts => rw [stOf_some hi hp] at h2; simp at h2
      · exact h1 i hi (by omega)
    · intro h
      refine ⟨fun i hi hlt => h i hi (by omega), ?_⟩
      rw [stOf_none (show k < ps.length by omega) (h k (by omega) (by omega))]
      rfl

/-- Does a pattern stand in a tree? -/
def inOf (p t : T) : Bool := t.subs.any fun q => (p.partsOf q).isSome

theorem stUp_nil_iff {ps : List T} : ∀ (xs : List T) (a : Nat), stUp ps xs a = [] ↔ ∀ x ∈ xs, ∀ p ∈ ps, p.partsOf x = none
  | [], _ => by simp [stUp]
  | x :: xs, a => by
    rw [stUp, List.append_eq_nil_iff, flatten_nil_iff (Nat.le_refl _), stUp_nil_iff xs (a + 1)]
    constructor
    · rintro ⟨h1, h2⟩ y hy p hp
      rcases List.mem_cons.1 hy with rfl | hy
      · obtain ⟨i, hi, rfl⟩ := List.getElem_of_mem hp
        exact h1 i hi hi
      · exact h2 y hy p hp
    · intro h
      exact ⟨fun i hi _ => h x (by simp) _ (List.getElem_mem hi), fun y hy p hp => h y (by simp [hy]) p hp⟩

theorem stAll_free (ps : List T) (t : T) : (stAll ps t).isEmpty = ps.all (fun p => !inOf p t) := by
  have h : (stAll ps t).isEmpty = true ↔ ps.all (fun p => !inOf p t) = true := by
    rw [List.isEmpty_iff, stAll, stUp_nil_iff, List.all_eq_true]
    constructor
    · intro h p hp
      simp only [inOf, Bool.not_eq_true', List.any_eq_false, Option.not_isSome_iff_eq_none]
      exact fun q hq => h q hq p hp
    · intro h q hq p hp
      have := h p hp
      simp only [inOf, Bool.not_eq_true', List.any_eq_false, Option.not_isSome_iff_eq_none] at this
      exact this q hq
  exact Bool.eq_iff_iff.2 h

/-- What PatternFree answers. -/
def freeV (xs : List ByteArray) (s : ByteArray) : Bool :=
  match patsOf xs, parse s.data.toList with
  | some ps, some t => ps.all (fun p => !inOf p t)
  | _, _ => false
/-- What PatternIn answers. -/
def inV (pat s : ByteArray) : Bool :=
  match patOf pat, parse s.data.toList with
  | some p, some t => inOf p t
  | _, _ => false

theorem patsOf_ok {xs : List ByteArray} {ps : List T} (h : patsOf xs = some ps) : ps.length = xs.length ∧ xs.length ≤ 20 ∧ ∀ p ∈ ps, p.wf ∧ p.leaves ≤ 12 ∧ p.nodes ≤ 16 ∧ ∃ c ks, p = .node c ks := by
  unfold patsOf at h
  split at h
  · cases h
  · have := patAll_ok xs.length xs ps rfl h
    exact ⟨this.1, by omega, this.2⟩

set_option maxRecDepth 100000 in
set_option maxHeartbeats 1000000 in
theorem iFree_any (xs : List ByteArray) (n : Nat) (hnx : n = xs.length) (g cap : Nat) (s : ByteArray) (w : World) (hn : n ≤ 1048576) (hz : ∀ j (h : j < xs.length), (xs[j]).size ≤ 1048576) (hs : s.size ≤ 1048576) (hl : TxL w g xs) :
    Calls Try.prog 18 #[.slice (some ⟨g, 0, none⟩) n cap, .string s] w (Ans (.bool (freeV xs s)) w) := by
  have HP := Lib.hid (readPatterns_any xs n hnx g cap w hn hz hl)
  have HT := Lib.hid (fun (W : World) => readTree_any s W (by omega))
  clear hnx hz hl
  go_enter Try.func18, Try.ntmps18
  go_wp2_with fail
  refine HP.out.mono ?_
  rintro e w1 ⟨hB1, ⟨hno, rfl⟩ | ⟨ps, gp, cp, hyes, rfl, hrd⟩⟩
  · have HN : Hid (freeV xs s = false) := Lib.hid (by rw [freeV, hno])
    clear hno
    go_wp2_with fail
    go_ret
    exact ⟨by rw [HN.out]; rfl, hB1⟩
  · obtain ⟨hpl, hx20, hpp⟩ := patsOf_ok hyes
    have HY := Lib.hid hyes
    have HRD := Lib.hid hrd
    have HPP := Lib.hid hpp
    obtain ⟨np, hnp⟩ : ∃ np, np = ps.length := ⟨_, rfl⟩
    have hnp20 : np ≤ 20 := by omega
    rw [← hnp]
    have HNP := Lib.hid hnp
    clear hyes hrd hpp hnp hpl
    go_wp2_with fail
    refine (HT.out w1).mono ?_
    rintro e w2 ⟨hB2, ⟨hno, rfl⟩ | ⟨t, ty, a, hyes, rfl, hrep⟩⟩
    · have HN : Hid (freeV xs s = false) := Lib.hid (by rw [freeV, HY.out, hno])
      clear hno
      go_wp2_with fail
      go_ret
      exact ⟨by rw [HN.out]; rfl, below_step hB1 hB2⟩
    · obtain ⟨htw, _, htl, htn⟩ := parse_some hyes
      have HN : Hid (freeV xs s = (stAll ps t).isEmpty) := Lib.hid (by rw [freeV, HY.out, hyes, stAll_free])
      have HF := Lib.hid (isFree_any ps t np gp cp HNP.out (by omega) ty a w2 ((HRD.out.below (by decide) hB2).weak (by decide) (fun _ _ h => h)) (fun p hp => by have := HPP.out p hp; omega) htw ⟨htl, htn⟩ (hrep.keep (fun _ _ _ h => h) (fun _ _ h => h) htw))
      have HB2 := Lib.hid (below_step hB1 hB2)
      clear hyes hrep hB2 hB1
      go_wp2_with fail
      refine HF.out.mono ?_
      rintro e w3 ⟨hB3, rfl⟩
      go_wp2_with fail
      go_ret
      exact ⟨by rw [HN.out]; rfl, below_step HB2.out hB3⟩

set_option maxRecDepth 100000 in
set_option maxHeartbeats 1000000 in
theorem iIn_any (pat s : ByteArray) (w : World) (hp : pat.size ≤ 1048576) (hs : s.size ≤ 1048576) :
    Calls Try.prog 9 #[.string pat, .string s] w (Ans (.bool (inV pat s)) w) := by
  have HP := Lib.hid (readPT_any pat s w hp hs)
  go_enter Try.func9, Try.ntmps9
  go_wp2_with fail
  refine HP.out.mono ?_
  rintro e w1 ⟨hB1, ⟨hno, rfl⟩ | ⟨p, t, a, ty, b, hyx, hyt, rfl, hr1, hr2⟩⟩
  · have HN : Hid (inV pat s = false) := Lib.hid (by
      rw [inV]
      rcases hno with h | h
      · rw [h]
      · rw [h]; cases patOf pat <;> rfl)
    clear hno
    go_wp2_with fail
    go_ret
    exact ⟨by rw [HN.out]; rfl, hB1⟩
  · obtain ⟨hpw, _, hpl, hpn⟩ := parse_some (patOf_some hyx).1
    obtain ⟨htw, _, htl, htn⟩ := parse_some hyt
    have HN : Hid (inV pat s = !(stAll [p] t).isEmpty) := Lib.hid (by rw [inV, hyx, hyt, stAll_free]; simp)
    have hX : Below w1.heap.size w1 (w1.alloc (.cells #[.pointer (some a)] 48 (0, 0))) := (Below.refl _ _).alloc (Nat.le_refl _) _
    have hc := Lib.cell_of_heap (heap_alloc_new w1 (.cells #[.pointer (some a)] 48 (0, 0))) (j := 0)
    have HF := Lib.hid (isFree_any [p] t 1 w1.heap.size 1 rfl (by omega) ty b (w1.alloc (.cells #[.pointer (some a)] 48 (0, 0))) (fun k hk => by
      have hk0 : k = 0 := by simp at hk; omega
      subst hk0
      refine ⟨w1.heap.size, [.pointer (some a)], rfl, by simp, fun j hj => ?_, a, rfl, hpw, (hr1.below hpw hX).keep (fun _ _ _ h => h) (fun _ _ h => h) hpw⟩
      have hj0 : j = 0 := by have : j < 1 := hj
                             omega
      subst hj0
      exact hc) (fun q hq => by simp at hq; subst hq; omega) htw ⟨htl, htn⟩ ((hr2.below htw hX).keep (fun _ _ _ h => h) (fun _ _ h => h) htw))
    have HB := Lib.hid (hB1.alloc hB1.size (.cells #[.pointer (some a)] 48 (0, 0)))
    clear hyx hyt hr1 hr2 hX hc hB1
    go_wp2_with fail
    refine HF.out.mono ?_
    rintro e w3 ⟨hB3, rfl⟩
    go_wp2_with fail
    go_ret
    exact ⟨by rw [HN.out]; rfl, below_step HB.out hB3⟩
end Go.Proofs.Ytfjodghnheliaaa
end
section
/- Does a pattern stand in a tree? By the model. -/
namespace Go.Proofs.Ytfjodghnheliaaa
open Go.RowKit

theorem inOf_yes {p t q : T} {k : Nat} {ts : List T} (h : t.subs[k]? = some q) (hp : p.partsOf q = some ts) : inOf p t = true := by
  rw [inOf, List.any_eq_true]
  exact ⟨q, List.mem_of_getElem? h, by rw [hp]; rfl⟩
theorem inOf_no {p t : T} (h : ∀ (i : Nat) (q : T), t.subs[i]? = some q → p.partsOf q = none) : inOf p t = false := by
  rw [inOf, List.any_eq_false]
  intro q hq
  obtain ⟨i, hi, rfl⟩ := List.getElem_of_mem hq
  rw [h i _ (List.getElem?_eq_getElem hi)]; simp

set_option maxRecDepth 100000 in
set_option maxHeartbeats 4000000 in
theorem l4In_any (p t : T) (pb : ByteArray) (pa : Option Addr) (pn pc : Nat) (tb : ByteArray) (ta : Option Addr) (tn tc : Nat) (w : World) (hpw : p.wf) (htw : t.wf) (hp : p.leaves ≤ 12 ∧ p.nodes ≤ 16) (ht : t.leaves ≤ 12 ∧ t.nodes ≤ 16)
    (hrp : RepS w (fun b => b < w.heap.size) p (.string pb) (.slice pa pn pc)) (hrt : RepS w (fun b => b < w.heap.size) t (.string tb) (.slice ta tn tc)) :
    Calls Try.prog 77 #[.agg #[.string pb, .slice pa pn pc], .agg #[.string tb, .slice ta tn tc]] w (fun e w' => Below w.heap.size w w' ∧ ∃ v : Int, e = .returned (.int .i64 v) ∧ decide (0 ≤ v) = inOf p t) := by
  have HRP := Lib.hid hrp
  have HRT := Lib.hid hrt
  obtain ⟨N, hN⟩ : ∃ N, N = t.nodes := ⟨_, rfl⟩
  have HNN := Lib.hid hN
  have hN16 : N ≤ 16 := by omega
  clear hrp hrt hN
  go_enter Try.func77, Try.ntmps77
  go_wp2_with fail
  obtain ⟨w0, hw0⟩ : ∃ w0, w0 = (w.alloc (.cells #[.string pb, .slice pa pn pc] 70 (0, 0))).alloc (.cells #[.string tb, .slice ta tn tc] 70 (0, 0)) := ⟨_, rfl⟩
  have HB0 : Hid (Below w.heap.size w w0) := Lib.hid (by rw [hw0]; go_grown)
  have HZ0 : Hid (w0.heap[w.heap.size]? = some (.cells #[.string pb, .slice pa pn pc] 70 (0, 0))) := Lib.hid (by
    rw [hw0, Below.heap_alloc _ _ _ (by simp)]; exact heap_alloc_new w _)
  have HZ1 : Hid (w0.heap[w.heap.size + 1]? = some (.cells #[.string tb, .slice ta tn tc] 70 (0, 0))) := Lib.hid (by
    rw [hw0]
    have := heap_alloc_new (w.alloc (.cells #[.string pb, .slice pa pn pc] 70 (0, 0))) (.cells #[.string tb, .slice ta tn tc] 70 (0, 0))
    simpa using this)
  have HSZ : Hid (w0.heap.size = w.heap.size + 2) := Lib.hid (by rw [hw0]; simp)
  rw [← hw0]
  clear hw0
  go_loopw [5] (fun iv wr => ∃ k : Nat, k ≤ N ∧ iv = .int .i64 k ∧ (∀ i q, i < k → t.subs[i]? = some q → p.partsOf q = none) ∧ Below w0.heap.size w0 wr) (fun iv _ => N - (intOf iv).toNat)
  case atStart => exact ⟨0, Nat.zero_le _, rfl, fun i q h => by omega, Below.refl _ _⟩
  case round =>
    obtain ⟨k, hk, rfl, hno, hB⟩ := hrel
    have HNO := Lib.hid hno
    have HB := Lib.hid hB
    have hs := hB.size
    obtain ⟨x0, x1, _, _⟩ := two_cells ((hB.block w.heap.size (by rw [HSZ.out]; omega)).trans HZ0.out)
    obtain ⟨y0, y1, _, _⟩ := two_cells ((hB.block (w.heap.size + 1) (by rw [HSZ.out]; omega)).trans HZ1.out)
    have HND := Lib.hid (l1Nodes_any _ t _ _ wr _ (Nat.le_refl _) htw (by rw [← HNN.out]; omega) ((HRT.out.below htw HB0.out).below htw hB))
    rw [← HNN.out] at HND
    clear hno hB
    go_wp2_with fail
    refine HND.out.mono ?_
    rintro e w2 ⟨rfl, hB2⟩
    have hs2 := hB2.size
    have hw2 : w.heap.size + 1 < w2.heap.size := by have := HSZ.out; omega
    have hw2' : w.heap.size < w2.heap.size := by omega
    have x0' := keep1 hB2 x0
    have x1' := keep1 hB2 x1
    have y0' := keep1 hB2 y0
    have y1' := keep1 hB2 y1
    have HB2 := Lib.hid (below_step HB.out hB2)
    clear hB2 x0 x1 y0 y1
    by_cases hlt : k < N
    · obtain ⟨r, q, a, hcut⟩ := cutAt_some t k (by rw [← HNN.out]; exact hlt)
      have HQ := Lib.hid (subs_cut t k r q a hcut)
      have hqw := (cutAt_wf t k r q a htw hcut).2.1
      have HPT := Lib.hid (l1Part_any _ t (.string tb) (.slice ta tn tc) k r q a w2 (fun b => b < w.heap.size) (Nat.le_refl _) htw (by omega) (by omega) (by rw [← HNN.out]; exact hlt) hcut (fun b h => by omega) ((HRT.out.below htw HB0.out).below htw HB2.out))
      clear hcut
      go_wp2_with fail
      refine HPT.out.mono ?_
      rintro e w3 ⟨hB3, sb, sa, sn, sc, rfl, hrs⟩
      have hs3 := hB3.size
      have hw3 : w.heap.size + 1 < w3.heap.size := by omega
      have hw3' : w.heap.size < w3.heap.size := by omega
      have x0'' := keep1 hB3 x0'
      have x1'' := keep1 hB3 x1'
      have HB3 := Lib.hid (below_step HB2.out hB3)
      have hX : Below w3.heap.size w3 (w3.alloc (.cells #[.string sb, .slice sa sn sc] 70 (0, 0))) := (Below.refl _ _).alloc (Nat.le_refl _) _
      have hY : Below w3.heap.size w3 ((w3.alloc (.cells #[.string sb, .slice sa sn sc] 70 (0, 0))).alloc (.cells #[] 70 (0, 0))) := hX.alloc (by simp) _
      have HY := Lib.hid hY
      have hrow : Row (trS.inn (fun b => b < w3.heap.size + 1)) 70 (w3.heap.size + 1) [] (.slice (some ⟨w3.heap.size + 1, 0, none⟩) 0 0) [] ((w3.alloc (.cells #[.string sb, .slice sa sn sc] 70 (0, 0))).alloc (.cells #[] 70 (0, 0))) := by
        have h := World.ownsRow_made (base := w3.heap.size + 1) (e := 70) (size := 2) (w3.alloc (.cells #[.string sb, .slice sa sn sc] 70 (0, 0))) #[] 0 (by simp) (by simp [maxLen]) rfl
        rw [World.size_alloc] at h
        exact ⟨h, fun _ h => by simp at h⟩
      have HM := Lib.hid (l4Match_any _ p q (.string pb) (.slice pa pn pc) (.string sb) (.slice sa sn sc) [] 0 (some ⟨w3.heap.size + 1, 0, none⟩) 0 [] (w3.heap.size + 1) ((w3.alloc (.cells #[.string sb, .slice sa sn sc] 70 (0, 0))).alloc (.cells #[] 70 (0, 0))) (Nat.le_refl _) hpw hqw rfl (by simp) (by omega) (by simp)
        ((((HRP.out.below hpw HB0.out).below hpw HB3.out).below hpw hY).keep (fun _ _ _ h => h) (fun b h _ => by omega) hpw) ((hrs.below hqw hY).keep (fun _ _ _ h => h) (fun b h _ => by omega) hqw) hrow)
      clear hX hY hrow hrs hB3
      go_wp2_with fail
      refine HM.out.mono ?_
      rintro e w4 ⟨ok, ts, n, va, vc, vs, rfl, hva, hparts, ho1, ho2⟩
      have HB4 : Hid (Below w0.heap.size w0 w4) := Lib.hid (below_step HB3.out (HY.out.trans (hparts.below.mono (by omega))))
      clear hparts hva
      cases ok with
      | true =>
        have HIN : Hid (inOf p t = true) := Lib.hid (inOf_yes HQ.out (ho1 rfl))
        clear ho1 ho2
        go_wp2_with fail
        go_ret
        exact ⟨HB0.out.trans (HB4.out.mono HB0.out.size), k, rfl, by rw [HIN.out]; exact decide_eq_true (by omega)⟩
      | false =>
        have HNX : Hid (∀ i q', i < k + 1 → t.subs[i]? = some q' → p.partsOf q' = none) := Lib.hid (fun i q' hi h => by
          by_cases e : i = k
          · subst e
            rw [HQ.out] at h
            cases h
            exact ho2 rfl
          · exact HNO.out i q' (by omega) h)
        clear ho1 ho2
        go_wp2_with fail
        go_roundw
        case rel => exact ⟨k + 1, by omega, by go_num, HNX.out, HB4.out⟩
        case measure => simp [intOf]; omega
    · have HIN : Hid (inOf p t = false) := Lib.hid (inOf_no (fun i q h => HNO.out i q (by
        have h1 := (List.getElem?_eq_some_iff.1 h).1
        rw [subs_length, ← HNN.out] at h1; omega) h))
      go_wp2_with fail
      go_ret
      exact ⟨HB0.out.trans (HB2.out.mono HB0.out.size), -1, rfl, by rw [HIN.out]; rfl⟩

/-- What 'l4Patterns' answers. -/
def PatsS (xs : List ByteArray) (w : World) (e : Ending) (w' : World) : Prop :=
  Below w.heap.size w w' ∧ ∃ (va : Option Addr) (n c : Nat) (b : Bool), e = .returned (.tuple #[.slice va n c, .bool b]) ∧
    ((patsOf xs = none ∧ b = false) ∨ ∃ ps g, patsOf xs = some ps ∧ b = true ∧ va = some ⟨g, 0, none⟩ ∧ n = ps.length ∧ Rd trS w' (fun b => w.heap.size ≤ b) (some ⟨g, 0, none⟩) ps)

set_option maxRecDepth 100000 in
set_option maxHeartbeats 4000000 in
theorem l4Patterns_any (xs : List ByteArray) (n : Nat) (hnx : n = xs.length) (g cap : Nat) (w : World) (hn : n ≤ 1048576) (hz : ∀ j (h : j < xs.length), (xs[j]).size ≤ 1048576) (hl : TxL w g xs) :
    Calls Try.prog 48 #[.slice (some ⟨g, 0, none⟩) n cap] w (PatsS xs w) := by
  have HL := Lib.hid hl
  have HZ := Lib.hid hz
  have HNN := Lib.hid hnx
  clear hl hz hnx
  obtain ⟨i0, hi0, hzz, hzs, hzb⟩ := info_parts info42
  go_enter Try.func48, Try.ntmps48
  go_wp2_with fail
  go_loopw [4, 5] (fun ov iv wr => ∃ (ts : List T) (k : Nat) (va : Option Addr) (vc : Nat) (vs : List Value), k = ts.length ∧ k ≤ n ∧ va ≠ none ∧ iv = .int .i64 k ∧ ov = .slice va k vc ∧ patAll (xs.take k) = some ts ∧ Row (trS.inn (fun b => w.heap.size ≤ b)) 70 w.heap.size ts (.slice va k vc) vs wr ∧ Below w.heap.size w wr) (fun _ iv _ => n - (intOf iv).toNat)
  case atStart =>
    refine ⟨[], 0, some ⟨w.heap.size, 0, none⟩, 0, [], rfl, Nat.zero_le _, by simp, rfl, rfl, rfl, ?_, (Below.refl _ _).alloc (Nat.le_refl _) _⟩
    exact ⟨World.ownsRow_made w #[] 0 (Nat.le_refl _) (by simp [maxLen]) rfl, fun _ h => by simp at h⟩
  case round =>
    obtain ⟨ts, k, va, vc, vs, hkp, hk, hva, rfl, rfl, hrd, hrow, hB⟩ := hrel
    have HKP := Lib.hid hkp
    have HVA := Lib.hid hva
    have HRD := Lib.hid hrd
    have HROW := Lib.hid hrow
    have HB := Lib.hid hB
    have hszr : w.heap.size ≤ wr.heap.size := hB.size
    by_cases hlt : k < n
    · have hltx : k < xs.length := by rw [← HNN.out]; exact hlt
      have c0 := (HL.out.below hB) k hltx
      have hzk := HZ.out k hltx
      obtain ⟨s, hs⟩ : ∃ s, s = xs[k] := ⟨_, rfl⟩
      rw [← hs] at c0 hzk
      have HS := Lib.hid hs
      have HP := Lib.hid (l4Pattern_any s wr hzk)
      clear hkp hva hrd hrow hB hs
      go_wp2_with fail
      refine HP.out.mono ?_
      rintro e w1 ⟨hB1, sb, sa, sn, sc, b, rfl, hres⟩
      have hs1 := hB1.size
      have HB1 := Lib.hid hB1
      have HX : Hid (Below w1.heap.size w1 (w1.alloc (.cells #[.string sb, .slice sa sn sc] 70 (0, 0)))) := Lib.hid ((Below.refl _ _).alloc (Nat.le_refl _) _)
      rcases hres with ⟨hno, rfl⟩ | ⟨t, hyes, rfl, hrep⟩
      · have HN : Hid (patsOf xs = none) := Lib.hid (by
          have h : patAll xs = none := by
            refine patAll_none (k := k + 1) ?_
            rw [patAll_take hltx, HRD.out, patStep, ← HS.out, hno]
          rw [patsOf, h]; split <;> rfl)
        have HBB := Lib.hid (below_step (below_step HB.out hB1) HX.out)
        clear hno hB1
        go_wp2_with fail
        go_ret2
        exact ⟨HBB.out, _, _, _, _, rfl, .inl ⟨HN.out, rfl⟩⟩
      · have HTK : Hid (patAll (xs.take (k + 1)) = some (ts ++ [t])) := Lib.hid (by
          rw [patAll_take hltx, HRD.out, patStep, ← HS.out, hyes])
        have hw := (parse_some (patOf_some hyes).1).1
        have HREP := Lib.hid hrep
        have hB2 := below_step hB1 HX.out
        have HB2 := Lib.hid hB2
        have OWN := owns_below HROW.out.own hB2
        rw [← HKP.out] at OWN
        have HOWN := Lib.hid OWN
        have HOA := Lib.hid (World.ownsRow.alloc OWN (.cells #[.string sb, .slice sa sn sc] 70 (0, 0)))
        clear OWN hB1 hB2 hrep hyes
        go_wp2_with (at_builtin; refine wpList_append_own_at _ rfl _ _ 68 rfl w.heap.size 70 i0 (.agg #[.string ⟨#[]⟩, .slice none 0 0]) 2 40 Try.underlying68 hi0 hzz hzs hzb rfl (by decide) (.slice va k vc) k vs rfl HOA.out ⟨w1.heap.size + 1, 0, none⟩ 1 1 [.string sb, .slice sa sn sc] rfl rfl (cells_two (by simp) _ _) (by simp [Value.oneCell']) (by unfold maxLen; omega) (by omega) (by simp; omega) ?_; intro v3 w6 hown3 hg3 hnil3 hat3)
        obtain ⟨g3, q3, rfl, _, _, _⟩ := owns_some hown3 (fun e => by have := hnil3.1 e; simp at this)
        have NX : Row (trS.inn (fun b => w.heap.size ≤ b)) 70 w.heap.size (ts ++ [t]) (.slice (some ⟨g3, 0, none⟩) (k + 1) q3) (vs ++ [.string sb, .slice sa sn sc]) w6 := by
          have h := HROW.out.next (a := t) (g := g3) (cap := q3) (w1 := w1.alloc (.cells #[.string sb, .slice sa sn sc] 70 (0, 0))) (w1' := (w1.alloc (.cells #[.string sb, .slice sa sn sc] 70 (0, 0))).alloc (.cells #[.string sb, .slice sa sn sc] 70 (0, 0))) HB2.out ⟨sb, sa, sn, sc, rfl, hw, (HREP.out.below hw HX.out).keep (fun _ _ _ h => h) (fun b hb _ => ⟨fun e => by
            have h1 := (HROW.out.own.lt b e).2
            omega, by omega⟩) hw⟩ ((Below.refl _ _).alloc (Nat.le_refl _) _) (by rw [← HKP.out]; exact hown3) hg3 (by
            rcases hat3 with h | h
            · left; rw [← h]; rfl
            · right; simp [Value.ownBlock] at h; simp; omega)
          rw [← HKP.out] at h
          exact h
        have HNX := Lib.hid NX
        have BB := Lib.hid (((below_step HB.out HB2.out).alloc (by simp; omega) (.cells #[.string sb, .slice sa sn sc] 70 (0, 0))).grown hg3 (by simp; omega) (fun q e => by have := (HOWN.out.lt q e).1; omega))
        clear NX hown3 hg3 hnil3 hat3
        go_wp2_with fail
        go_roundw
        case rel => exact ⟨ts ++ [t], k + 1, some ⟨g3, 0, none⟩, q3, _, by rw [List.length_append]; have := HKP.out; simp; omega, by omega, by simp, by go_num, rfl, HTK.out, HNX.out, BB.out⟩
        case measure => simp [intOf]; omega
    · have hkn : k = n := by omega
      have hall : patAll xs = some ts := by
        have := HRD.out
        rw [hkn, HNN.out, List.take_length] at this
        exact this
      have HR := Lib.hid hall
      obtain ⟨gv, rfl, _⟩ := owns_addr HROW.out.own HVA.out
      have HRR := Lib.hid (HROW.out.rd.inn (fun g e h0 => HROW.out.rd_from g e h0))
      clear hkp hva hrd hrow hall
      by_cases h20 : n ≤ 20
      · have e20 : decide ((n : Int) ≤ 20) = true := decide_eq_true (by omega)
        have HT : Hid (patsOf xs = some ts) := Lib.hid (by rw [patsOf, if_neg (by have := HNN.out; omega)]; exact HR.out)
        go_wp2_with fail
        go_ret2
        exact ⟨HB.out, _, _, _, _, rfl, .inr ⟨ts, gv, HT.out, by first | rfl | exact e20, rfl, HKP.out, HRR.out⟩⟩
      · have e20 : decide ((n : Int) ≤ 20) = false := decide_eq_false (by omega)
        have HT : Hid (patsOf xs = none) := Lib.hid (by rw [patsOf, if_pos (by have := HNN.out; omega)])
        go_wp2_with fail
        go_ret2
        exact ⟨HB.out, _, _, _, _, rfl, .inl ⟨HT.out, by first | rfl | exact e20⟩⟩

theorem trS.get {w : World} {P : Nat → Prop} {a : Option Addr} {ps : List T} (h : Rd trS w P a ps) (k : Nat) (hk : k < ps.length) :
    ∃ g lb sa sn sc, a = some ⟨g, 0, none⟩ ∧ P g ∧ w.cell? ⟨g, k * 2, none⟩ = some (.string lb) ∧ w.cell? ⟨g, k * 2 + 1, none⟩ = some (.slice sa sn sc) ∧ (ps[k]).wf ∧ RepS w P (ps[k]) (.string lb) (.slice sa sn sc) := by
  obtain ⟨g, cs, e, hg, hc, lb, sa, sn, sc, rfl, hw, hr⟩ := h k hk
  have h0 := hc 0 (by decide)
  have h1 := hc 1 (by decide)
  exact ⟨g, lb, sa, sn, sc, e, hg, by simpa [trS] using h0, by simpa [trS] using h1, hw, hr⟩

set_option maxRecDepth 100000 in
set_option maxHeartbeats 4000000 in
theorem l4Free_any (ps : List T) (n : Nat) (hnp : n = ps.length) (hn : n ≤ 20) (g cap : Nat) (t : T) (tb : ByteArray) (ta : Option Addr) (tn tc : Nat) (w : World) (hps : ∀ p ∈ ps, p.leaves ≤ 12 ∧ p.nodes ≤ 16) (htw : t.wf) (ht : t.leaves ≤ 12 ∧ t.nodes ≤ 16)
    (hrd : Rd trS w (fun b => b < w.heap.size) (some ⟨g, 0, none⟩) ps) (hrt : RepS w (fun b => b < w.heap.size) t (.string tb) (.slice ta tn tc)) :
    Calls Try.prog 50 #[.slice (some ⟨g, 0, none⟩) n cap, .agg #[.string tb, .slice ta tn tc]] w (Ans (.bool (ps.all (fun p => !inOf p t))) w) := by
  have HRD := Lib.hid hrd
  have HRT := Lib.hid hrt
  have HPS := Lib.hid hps
  have HNN := Lib.hid hnp
  clear hrd hrt hps hnp
  have HB0 : Hid (Below w.heap.size w (w.alloc (.cells #[.string tb, .slice ta tn tc] 70 (0, 0)))) := Lib.hid ((Below.refl _ _).alloc (Nat.le_refl _) _)
  have HZ0 := Lib.hid (heap_alloc_new w (.cells #[.string tb, .slice ta tn tc] 70 (0, 0)))
  have HSZ : Hid ((w.alloc (.cells #[.string tb, .slice ta tn tc] 70 (0, 0))).heap.size = w.heap.size + 1) := Lib.hid (by simp)
  go_enter Try.func50, Try.ntmps50
  go_wp2_with fail
  obtain ⟨w0, hw0⟩ : ∃ w0, w0 = w.alloc (.cells #[.string tb, .slice ta tn tc] 70 (0, 0)) := ⟨_, rfl⟩
  rw [← hw0] at HB0 HZ0 HSZ ⊢
  clear hw0
  go_loopw [5] (fun iv wr => ∃ k : Nat, k ≤ n ∧ iv = .int .i64 k ∧ (∀ i (h : i < ps.length), i < k → inOf ps[i] t = false) ∧ Below w0.heap.size w0 wr) (fun iv _ => n - (intOf iv).toNat)
  case atStart => exact ⟨0, Nat.zero_le _, rfl, fun i _ h => by omega, Below.refl _ _⟩
  case round =>
    obtain ⟨k, hk, rfl, hno, hB⟩ := hrel
    have HNO := Lib.hid hno
    have HB := Lib.hid hB
    have hs := hB.size
    obtain ⟨x0, x1, _, _⟩ := two_cells ((hB.block w.heap.size (by rw [HSZ.out]; omega)).trans HZ0.out)
    have hw1 : w.heap.size < wr.heap.size := by have := HSZ.out; omega
    clear hno
    by_cases hlt : k < n
    · have hkp : k < ps.length := by rw [← HNN.out]; exact hlt
      obtain ⟨g', lb, sa, sn, sc, e, hg, c0, c1, hpw, hrp⟩ := trS.get HRD.out k hkp
      cases e
      have c0' := keep1 hB (keep1 HB0.out c0)
      have c1' := keep1 hB (keep1 HB0.out c1)
      have hgw : g < wr.heap.size := by have := HSZ.out; omega
      have hsz := HPS.out ps[k] (List.getElem_mem hkp)
      obtain ⟨p, hp⟩ : ∃ p, p = ps[k] := ⟨_, rfl⟩
      rw [← hp] at hpw hrp hsz
      have HP := Lib.hid hp
      obtain ⟨bb, hbb⟩ : ∃ bb, bb = inOf p t := ⟨_, rfl⟩
      have HI : Hid (∀ W, Below wr.heap.size wr W → Calls Try.prog 77 #[.agg #[.string lb, .slice sa sn sc], .agg #[.string tb, .slice ta tn tc]] W (fun e w' => Below W.heap.size W w' ∧ ∃ v : Int, e = .returned (.int .i64 v) ∧ decide (0 ≤ v) = bb)) := Lib.hid (fun W hb => by
        have h := l4In_any p t lb sa sn sc tb ta tn tc W hpw htw hsz ht (((((hrp.below hpw HB0.out).below hpw hB).below hpw hb).keep (fun _ _ _ h => h) (fun b h _ => by have := hb.size; omega) hpw))
          ((((HRT.out.below htw HB0.out).below htw hB).below htw hb).keep (fun _ _ _ h => h) (fun b h _ => by have := hb.size; omega) htw)
        rw [← hbb] at h
        exact h)
      have HBB := Lib.hid hbb
      clear c0 c1 hrp hp hB hbb
      cases bb with
      | true =>
        have HA : Hid (ps.all (fun p => !inOf p t) = false) := Lib.hid (by
          rw [List.all_eq_false]
          exact ⟨p, by rw [HP.out]; exact List.getElem_mem hkp, by rw [← HBB.out]; simp⟩)
        go_wp2_with fail
        go_region_with (go_at_call 77; refine (HI.out _ (Below.refl _ _).drew).mono ?_; rintro e w2 ⟨hB2, v, rfl, hv⟩)
        all_goals
          have HB2 : Hid (Below w0.heap.size w0 w2) := Lib.hid (below_step HB.out ((Below.refl _ _).drew.trans hB2))
          clear hB2
          go_wp2_with fail
          go_ret
          exact ⟨by rw [HA.out]; rfl, HB0.out.trans (HB2.out.mono HB0.out.size)⟩
      | false =>
        have HNX : Hid (∀ i (h : i < ps.length), i < k + 1 → inOf ps[i] t = false) := Lib.hid (fun i h hi => by
          by_cases e : i = k
          · subst e; rw [← HP.out]; exact HBB.out.symm
          · exact HNO.out i h (by omega))
        go_wp2_with fail
        go_region_with (go_at_call 77; refine (HI.out _ (Below.refl _ _).drew).mono ?_; rintro e w2 ⟨hB2, v, rfl, hv⟩)
        all_goals
          have HB2 : Hid (Below w0.heap.size w0 w2) := Lib.hid (below_step HB.out ((Below.refl _ _).drew.trans hB2))
          clear hB2
          go_wp2_with fail
          go_roundw
          case rel => exact ⟨k + 1, by omega, by go_num, HNX.out, HB2.out⟩
          case measure => simp [intOf]; omega
    · have HA : Hid (ps.all (fun p => !inOf p t) = true) := Lib.hid (by
        rw [List.all_eq_true]
        intro p hp
        obtain ⟨i, hi, rfl⟩ := List.getElem_of_mem hp
        rw [HNO.out i hi (by have := HNN.out; omega)]; rfl)
      clear hB
      go_wp2_with fail
      go_ret
      exact ⟨by rw [HA.out]; rfl, HB0.out.trans (HB.out.mono HB0.out.size)⟩

set_option maxRecDepth 100000 in
set_option maxHeartbeats 1000000 in
theorem sFree_any (xs : List ByteArray) (n : Nat) (hnx : n = xs.length) (g cap : Nat) (s : ByteArray) (w : World) (hn : n ≤ 1048576) (hz : ∀ j (h : j < xs.length), (xs[j]).size ≤ 1048576) (hs : s.size ≤ 1048576) (hl : TxL w g xs) :
    Calls Try.prog 19 #[.slice (some ⟨g, 0, none⟩) n cap, .string s] w (Ans (.bool (freeV xs s)) w) := by
  have HP := Lib.hid (l4Patterns_any xs n hnx g cap w hn hz hl)
  have HT := Lib.hid (fun (W : World) => l1Parse_any s W (by omega))
  clear hnx hz hl
  go_enter Try.func19, Try.ntmps19
  go_wp2_with fail
  refine HP.out.mono ?_
  rintro e w1 ⟨hB1, va, m, c, b, rfl, hres⟩
  have HB1 := Lib.hid hB1
  have HR1 := Lib.hid hres
  clear hB1 hres
  go_wp2_with fail
  refine (HT.out w1).mono ?_
  rintro e w2 ⟨hB2, lb, sa, sn, sc, b2, rfl, hres2⟩
  have HX : Hid (Below w2.heap.size w2 (w2.alloc (.cells #[.string lb, .slice sa sn sc] 70 (0, 0)))) := Lib.hid ((Below.refl _ _).alloc (Nat.le_refl _) _)
  have HB2 := Lib.hid hB2
  have HBB := Lib.hid (below_step (below_step HB1.out hB2) HX.out)
  have hs12 := hB2.size
  clear hB2
  rcases HR1.out with ⟨hno, rfl⟩ | ⟨ps, gp, hyes, rfl, rfl, rfl, hrd⟩
  · have HN : Hid (freeV xs s = false) := Lib.hid (by rw [freeV, hno])
    clear hno hres2
    go_wp2_with fail
    go_ret
    exact ⟨by rw [HN.out]; rfl, HBB.out⟩
  · obtain ⟨hpl, hx20, hpp⟩ := patsOf_ok hyes
    rcases hres2 with ⟨hno, rfl⟩ | ⟨t, hyt, rfl, hrt⟩
    · have HN : Hid (freeV xs s = false) := Lib.hid (by rw [freeV, hyes, hno])
      clear hno hyes hpp hrd hpl
      go_wp2_with fail
      go_ret
      exact ⟨by rw [HN.out]; rfl, HBB.out⟩
    · obtain ⟨htw, _, htl, htn⟩ := parse_some hyt
      have HN : Hid (freeV xs s = ps.all (fun p => !inOf p t)) := Lib.hid (by rw [freeV, hyes, hyt])
      obtain ⟨np, hnp⟩ : ∃ np, np = ps.length := ⟨_, rfl⟩
      have HF := Lib.hid (l4Free_any ps np hnp (by omega) gp c t lb sa sn sc (w2.alloc (.cells #[.string lb, .slice sa sn sc] 70 (0, 0))) (fun p hp => by have := hpp p hp; omega) htw ⟨htl, htn⟩ (((hrd.below (by decide) HB2.out).below (by decide) HX.out).weak (by decide) (fun _ _ h => h)) ((hrt.below htw HX.out).keep (fun _ _ _ h => h) (fun _ _ h => h) htw))
      rw [← hnp]
      clear hyes hyt hpp hrd hrt hnp hpl
      go_wp2_with fail
      refine HF.out.mono ?_
      rintro e w3 ⟨rfl, hB3⟩
      go_wp2_with fail
      go_ret
      exact ⟨by rw [HN.out]; rfl, below_step HBB.out hB3⟩
end Go.Proofs.Ytfjodghnheliaaa
end
