/- The program reads patterns. -/
import Derived.Test.YtfjodghnheliaaaPatM
import Derived.Test.YtfjodghnheliaaaRow
import Derived.Test.YtfjodghnheliaaaMirrorI
import Derived.Test.YtfjodghnheliaaaKReadIC
namespace Go.Proofs.Ytfjodghnheliaaa
open Go.RowKit

/-- A pattern: a tree with a node. -/
def patOf (s : ByteArray) : Option T :=
  match parse s.data.toList with
  | some (.node c ks) => some (.node c ks)
  | _ => none

theorem patOf_some {s : ByteArray} {t : T} (h : patOf s = some t) : parse s.data.toList = some t ∧ ∃ c ks, t = .node c ks := by
  unfold patOf at h
  split at h
  · next c ks e => cases h; exact ⟨e, c, ks, rfl⟩
  · cases h
theorem patOf_node {s : ByteArray} {c : UInt8} {ks : List T} (h : parse s.data.toList = some (.node c ks)) : patOf s = some (.node c ks) := by unfold patOf; rw [h]
theorem patOf_leaf {s : ByteArray} (h : parse s.data.toList = some .leaf) : patOf s = none := by unfold patOf; rw [h]
theorem patOf_none {s : ByteArray} (h : parse s.data.toList = none) : patOf s = none := by unfold patOf; rw [h]

def patStep (acc : Option (List T)) (s : ByteArray) : Option (List T) :=
  match acc with
  | none => none
  | some ps => match patOf s with
    | none => none
    | some t => some (ps ++ [t])
def patAll (xs : List ByteArray) : Option (List T) := xs.foldl patStep (some [])
/-- At most twenty patterns. -/
def patsOf (xs : List ByteArray) : Option (List T) := if 20 < xs.length then none else patAll xs

theorem patFold_none (xs : List ByteArray) : xs.foldl patStep none = none := by
  induction xs with
  | nil => rfl
  | cons x xs ih => exact ih
theorem patAll_take {xs : List ByteArray} {k : Nat} (h : k < xs.length) : patAll (xs.take (k + 1)) = patStep (patAll (xs.take k)) xs[k] := by
  rw [List.take_succ_eq_append_getElem h, patAll, patAll, List.foldl_append]; rfl
theorem patAll_none {xs : List ByteArray} {k : Nat} (h : patAll (xs.take k) = none) : patAll xs = none := by
  have e : xs = xs.take k ++ xs.drop k := (List.take_append_drop k xs).symm
  rw [patAll] at h
  rw [e, patAll, List.foldl_append, h, patFold_none]
theorem patAll_ok : ∀ (n : Nat) (xs : List ByteArray) (ps : List T), xs.length = n → patAll xs = some ps → ps.length = xs.length ∧ ∀ p ∈ ps, p.wf ∧ p.leaves ≤ 12 ∧ p.nodes ≤ 16 ∧ ∃ c ks, p = .node c ks := by
  intro n
  induction n with
  | zero =>
    intro xs ps hl h
    have e : xs = [] := List.length_eq_zero_iff.1 hl
    subst e
    rw [patAll, List.foldl_nil, Option.some.injEq] at h
    subst h
    exact ⟨rfl, fun p hp => by simp at hp⟩
  | succ n ih =>
    intro xs ps hl h
    have hlt : n < xs.length := by omega
    have ht : xs.take (n + 1) = xs := by rw [← hl, List.take_length]
    rw [← ht, patAll_take hlt] at h
    cases hp : patAll (xs.take n) with
    | none => rw [hp] at h; cases h
    | some qs =>
      rw [hp, patStep] at h
      cases hq : patOf xs[n] with
      | none => rw [hq] at h; cases h
      | some t =>
        rw [hq] at h
        simp only [Option.some.injEq] at h
        subst h
        obtain ⟨h1, h2⟩ := ih (xs.take n) qs (by rw [List.length_take]; omega) hp
        obtain ⟨h3, c, ks, h4⟩ := patOf_some hq
        obtain ⟨h5, _, h6, h7⟩ := parse_some h3
        rw [List.length_take] at h1
        refine ⟨by simp; omega, fun p hp => ?_⟩
        rcases List.mem_append.1 hp with e | e
        · exact h2 p e
        · have e2 : p = t := by simpa using e
          subst e2
          exact ⟨h5, h6, h7, c, ks, h4⟩

/-- A pattern as the program has it. -/
def patI : Elt T where
  size := 1
  R w P t cs := ∃ a, cs = [.pointer (some a)] ∧ t.wf ∧ RepI w P t 48 a
  len := by rintro w P t cs ⟨a, rfl, _⟩; rfl
  one := by
    rintro w P t cs ⟨a, rfl, _⟩ u hu
    simp at hu
    subst hu
    rfl
  keep := by
    rintro w w' P P' t cs hk hp ⟨a, rfl, hw, hr⟩
    exact ⟨a, rfl, hw, hr.keep hk hp hw⟩

theorem patI.get {w : World} {P : Nat → Prop} {a : Option Addr} {ps : List T} (h : Rd patI w P a ps) (k : Nat) (hk : k < ps.length) :
    ∃ g b, a = some ⟨g, 0, none⟩ ∧ P g ∧ w.cell? ⟨g, k, none⟩ = some (.pointer (some b)) ∧ (ps[k]).wf ∧ RepI w P (ps[k]) 48 b := by
  obtain ⟨g, cs, e, hg, hc, b, rfl, hw, hr⟩ := h k hk
  have := hc 0 (by decide)
  exact ⟨g, b, e, hg, by simpa [patI] using this, hw, hr⟩

/-- What 'readPattern' answers. -/
def RPat (s : ByteArray) (w : World) (e : Ending) (w' : World) : Prop :=
  Below w.heap.size w w' ∧ ((patOf s = none ∧ e = .returned (.tuple #[.pointer none, .bool false])) ∨
    ∃ t a, patOf s = some t ∧ e = .returned (.tuple #[.pointer (some a), .bool true]) ∧ RepI w' (fun b => w.heap.size ≤ b) t 48 a)

set_option maxRecDepth 100000 in
set_option maxHeartbeats 1000000 in
theorem readPattern_any (s : ByteArray) (w : World) (hs : s.size ≤ 1048576) :
    Calls Try.prog 67 #[.string s] w (RPat s w) := by
  have HT := Lib.hid (readTree_any s w (by omega))
  go_enter Try.func67, Try.ntmps67
  go_wp2_with fail
  refine HT.out.mono ?_
  rintro e w1 ⟨hB1, ⟨hno, rfl⟩ | ⟨t, ty, a, hyes, rfl, hrep⟩⟩
  · have HN := Lib.hid (patOf_none hno)
    clear hno
    go_wp2_with fail
    go_ret2
    exact ⟨hB1, .inl ⟨HN.out, rfl⟩⟩
  · cases t with
    | leaf =>
      have HN := Lib.hid (patOf_leaf hyes)
      rw [RepI] at hrep
      subst hrep
      have hta := fun v w => assert_leaf v w
      clear hyes
      go_wp2_with fail
      go_ret2
      exact ⟨hB1, .inl ⟨HN.out, rfl⟩⟩
    | node c ks =>
      have HN := Lib.hid (patOf_node hyes)
      have HR := Lib.hid hrep
      rw [RepI] at hrep
      obtain ⟨rfl, _⟩ := hrep
      have hta := fun v w => assert_node v w
      clear hyes
      go_wp2_with fail
      go_ret2
      exact ⟨hB1, .inr ⟨_, a, HN.out, rfl, HR.out.keep (fun _ _ _ h => h) (fun b h _ => by simpa using h) (parse_some (patOf_some HN.out).1).1⟩⟩

/-- Texts in a row of their own. -/
def TxL (w : World) (g : Nat) (xs : List ByteArray) : Prop := ∀ j (h : j < xs.length), w.cell? ⟨g, j, none⟩ = some (.string xs[j])
theorem TxL.below {w w' : World} {g : Nat} {xs : List ByteArray} (h : TxL w g xs) (hb : Below w.heap.size w w') : TxL w' g xs := fun j hj => keep1 hb (h j hj)

/-- What 'readPatterns' answers. -/
def RPats (xs : List ByteArray) (w : World) (e : Ending) (w' : World) : Prop :=
  Below w.heap.size w w' ∧ ((patsOf xs = none ∧ e = .returned (.tuple #[.slice none 0 0, .bool false])) ∨
    ∃ ps g c, patsOf xs = some ps ∧ e = .returned (.tuple #[.slice (some ⟨g, 0, none⟩) ps.length c, .bool true]) ∧ Rd patI w' (fun b => w.heap.size ≤ b) (some ⟨g, 0, none⟩) ps)

theorem infoPP : (Try.prog.info? 48).map (fun i => (i.zero, i.size, i.bytes)) = some (some (.pointer none), 1, 8) := by kernel_rfl

set_option maxRecDepth 100000 in
set_option maxHeartbeats 4000000 in
theorem readPatterns_any (xs : List ByteArray) (n : Nat) (hnx : n = xs.length) (g cap : Nat) (w : World) (hn : n ≤ 1048576) (hz : ∀ j (h : j < xs.length), (xs[j]).size ≤ 1048576) (hl : TxL w g xs) :
    Calls Try.prog 38 #[.slice (some ⟨g, 0, none⟩) n cap] w (RPats xs w) := by
  have HL := Lib.hid hl
  have HZ := Lib.hid hz
  have HNN := Lib.hid hnx
  clear hl hz hnx
  obtain ⟨i0, hi0, hzz, hzs, hzb⟩ := info_parts infoPP
  by_cases h60 : n ≤ 20
  · have HT : Hid (patsOf xs = patAll xs) := Lib.hid (by rw [patsOf, if_neg (by have := HNN.out; omega)])
    go_enter Try.func38, Try.ntmps38
    go_wp2_with fail
    go_loopw [4, 15] (fun ov iv wr => ∃ (ts : List T) (k : Nat) (va : Option Addr) (vc : Nat) (vs : List Value), k = ts.length ∧ k ≤ n ∧ va ≠ none ∧ iv = .int .i64 k ∧ ov = .slice va k vc ∧ patAll (xs.take k) = some ts ∧ Row (patI.inn (fun b => w.heap.size ≤ b)) 48 w.heap.size ts (.slice va k vc) vs wr ∧ Below w.heap.size w wr) (fun _ iv _ => n - (intOf iv).toNat)
    case atStart =>
      refine ⟨[], 0, some ⟨w.heap.size, 0, none⟩, 0, [], rfl, Nat.zero_le _, by simp, rfl, rfl, rfl, ?_, (Below.refl _ _).alloc (Nat.le_refl _) _⟩
      exact ⟨World.ownsRow_made w #[] 0 (Nat.le_refl _) (by simp [maxLen]) rfl, fun _ h => by simp at h⟩
    case round =>
      obtain ⟨ts, k, va, vc, vs, hkp, hk, hva, rfl, rfl, hrd, hrow, hB⟩ := hrel
      have HKP := Lib.hid hkp
      have HVA := Lib.hid hva
      have HRD := Lib.hid hrd
      have HROW := Lib.hid hrow
      have HB := Lib.hid hB
      have hszr : w.heap.size ≤ wr.heap.size := hB.size
      by_cases hlt : k < n
      · have hltx : k < xs.length := by rw [← HNN.out]; exact hlt
        have c0 := (HL.out.below hB) k hltx
        have hzk := HZ.out k hltx
        obtain ⟨s, hs⟩ : ∃ s, s = xs[k] := ⟨_, rfl⟩
        rw [← hs] at c0 hzk
        have HS := Lib.hid hs
        have HP := Lib.hid (readPattern_any s wr hzk)
        clear hkp hva hrd hrow hB hs
        go_wp2_with fail
        refine HP.out.mono ?_
        rintro e w1 ⟨hB1, ⟨hno, rfl⟩ | ⟨t, a, hyes, rfl, hrep⟩⟩
        · have HN : Hid (patsOf xs = none) := Lib.hid (by
            rw [HT.out]
            refine patAll_none (k := k + 1) ?_
            rw [patAll_take hltx, HRD.out, patStep, ← HS.out, hno])
          have HBB := Lib.hid (below_step HB.out hB1)
          clear hno hB1
          go_wp2_with fail
          go_ret2
          exact ⟨HBB.out, .inl ⟨HN.out, rfl⟩⟩
        · have HTK : Hid (patAll (xs.take (k + 1)) = some (ts ++ [t])) := Lib.hid (by
            rw [patAll_take hltx, HRD.out, patStep, ← HS.out, hyes])
          have hw := (parse_some (patOf_some hyes).1).1
          have HREP := Lib.hid hrep
          have HB1 := Lib.hid hB1
          have OWN := owns_below HROW.out.own hB1
          rw [← HKP.out] at OWN
          have HOWN := Lib.hid OWN
          have HOA := Lib.hid (World.ownsRow.alloc OWN (.cells #[.pointer (some a)] 48 (0, 0)))
          have hs1 := hB1.size
          clear OWN hB1 hrep hyes
          go_wp2_with (at_builtin; refine wpList_append_own_at _ rfl _ _ 54 rfl w.heap.size 48 i0 (.pointer none) 1 8 Try.underlying54 hi0 hzz hzs hzb rfl (by decide) (.slice va k vc) k vs rfl HOA.out ⟨w1.heap.size, 0, none⟩ 1 1 [.pointer (some a)] rfl rfl (cells_one rfl _) (by simp [Value.oneCell']) (by unfold maxLen; omega) (by omega) (by simp; omega) ?_; intro v3 w6 hown3 hg3 hnil3 hat3)
          obtain ⟨g3, q3, rfl, _, _, _⟩ := owns_some hown3 (fun e => by have := hnil3.1 e; simp at this)
          have NX : Row (patI.inn (fun b => w.heap.size ≤ b)) 48 w.heap.size (ts ++ [t]) (.slice (some ⟨g3, 0, none⟩) (k + 1) q3) (vs ++ [.pointer (some a)]) w6 := by
            have h := HROW.out.next (a := t) (g := g3) (cap := q3) (w1 := w1) (w1' := w1.alloc (.cells #[.pointer (some a)] 48 (0, 0))) HB1.out ⟨a, rfl, hw, HREP.out.keep (fun _ _ _ h => h) (fun b hb _ => ⟨fun e => by
              have h1 := (HROW.out.own.lt b e).2
              omega, by omega⟩) hw⟩ ((Below.refl _ _).alloc (Nat.le_refl _) _) (by rw [← HKP.out]; exact hown3) hg3 (by
              rcases hat3 with h | h
              · left; rw [← h]; rfl
              · right; simp [Value.ownBlock] at h; omega)
            rw [← HKP.out] at h
            exact h
          have HNX := Lib.hid NX
          have BB := Lib.hid (((below_step HB.out HB1.out).alloc (by omega) (.cells #[.pointer (some a)] 48 (0, 0))).grown hg3 (by simp; omega) (fun q e => by have := (HOWN.out.lt q e).1; omega))
          clear NX hown3 hg3 hnil3 hat3
          exact ⟨⟨ts ++ [t], k + 1, some ⟨g3, 0, none⟩, q3, _, by rw [List.length_append]; have := HKP.out; simp; omega, by omega, by simp, by go_num, rfl, HTK.out, HNX.out, BB.out⟩, by simp [intOf]; omega⟩
      · have hkn : k = n := by omega
        have HR : Hid (patsOf xs = some ts) := Lib.hid (by
          have := HRD.out
          rw [hkn, HNN.out, List.take_length] at this
          rw [HT.out, this])
        obtain ⟨gv, rfl, _⟩ := owns_addr HROW.out.own HVA.out
        have HRR := Lib.hid (HROW.out.rd.inn (fun g e h0 => HROW.out.rd_from g e h0))
        clear hkp hva hrd hrow
        go_wp2_with fail
        go_ret2
        exact ⟨HB.out, .inr ⟨ts, gv, vc, HR.out, by rw [← HKP.out]; rfl, HRR.out⟩⟩
  · have HT : Hid (patsOf xs = none) := Lib.hid (by rw [patsOf, if_pos (by have := HNN.out; omega)])
    go_enter Try.func38, Try.ntmps38
    go_wp2_with fail
    go_ret2
    exact ⟨Below.refl _ _, .inl ⟨HT.out, rfl⟩⟩
end Go.Proofs.Ytfjodghnheliaaa
