/- Merged out of: XKPPat, XPPutM. -/
import Derived.Test.YtfjodghnheliaaaKLawJn
import Derived.Test.YtfjodghnheliaaaKAll
import Derived.Test.YtfjodghnheliaaaLawIn
import Derived.Test.YtfjodghnheliaaaKFree
import Derived.Test.YtfjodghnheliaaaPutI
section
/- Merged out of: XPPatM, XPPat. -/
section
/- What FnIn, FnFree, FnAll say, as mathematics. No walk here. -/
namespace Go.Proofs.Ytfjodghnheliaaa

mutual
theorem cut_subs : ∀ (t : T) (k : Nat) (r p : T) (a : Nat), t.cutAt k = some (r, p, a) → (∀ q ∈ p.subs, q ∈ t.subs) ∧ p.leaves ≤ t.leaves ∧ p.nodes ≤ t.nodes
  | .leaf, k, r, p, a, h => by rw [T.cutAt] at h; cases h
  | .node c ks, k, r, p, a, h => by
    rw [T.cutAt] at h
    split at h
    · cases h
      exact ⟨fun y hy => hy, Nat.le_refl _, Nat.le_refl _⟩
    · split at h
      · cases h
      · rename_i rs p' a' he
        cases h
        obtain ⟨h1, h2, h3⟩ := cutL_subs ks _ _ _ _ he
        exact ⟨fun y hy => by rw [T.subs]; exact List.mem_cons_of_mem _ (h1 y hy), by rw [T.leaves]; exact h2, by rw [T.nodes]; omega⟩
theorem cutL_subs : ∀ (ks : List T) (k : Nat) (rs : List T) (p : T) (a : Nat), T.cutL ks k = some (rs, p, a) → (∀ q ∈ p.subs, q ∈ T.subsL ks) ∧ p.leaves ≤ T.leavesL ks ∧ p.nodes ≤ T.nodesL ks
  | [], k, rs, p, a, h => by rw [T.cutL] at h; cases h
  | t :: ts, k, rs, p, a, h => by
    rw [T.cutL] at h
    rw [T.leavesL, T.nodesL]
    split at h
    · rename_i r' p' a' he
      cases h
      obtain ⟨h1, h2, h3⟩ := cut_subs t k _ _ _ he
      exact ⟨fun y hy => by rw [T.subsL]; exact List.mem_append_left _ (h1 y hy), by omega, by omega⟩
    · split at h
      · cases h
      · rename_i rs' p' a' he
        cases h
        obtain ⟨h1, h2, h3⟩ := cutL_subs ts _ _ _ _ he
        exact ⟨fun y hy => by rw [T.subsL]; exact List.mem_append_right _ (h1 y hy), by omega, by omega⟩
end

theorem inOf_iff {p t : T} : inOf p t = true ↔ ∃ q ∈ t.subs, ∃ ts, p.partsOf q = some ts := by
  rw [inOf, List.any_eq_true]
  constructor
  · rintro ⟨q, hq, h⟩
    exact ⟨q, hq, Option.isSome_iff_exists.1 h⟩
  · rintro ⟨q, hq, ts, h⟩
    exact ⟨q, hq, by rw [h]; rfl⟩

theorem inV_yes {p s : ByteArray} {x t : T} (hp : patOf p = some x) (hs : parse s.data.toList = some t) : inV p s = inOf x t := by simp only [inV, hp, hs]
theorem inV_some {p s : ByteArray} (h : inV p s = true) : ∃ x t, patOf p = some x ∧ parse s.data.toList = some t ∧ inOf x t = true := by
  unfold inV at h
  split at h
  · exact ⟨_, _, by assumption, by assumption, h⟩
  · cases h

/-- What is grafted, and what is told of it. -/
theorem done_tld (X : T) : ∃ (x : ByteArray) (b : Bool), doneV X = .tuple #[.string x, .bool b] ∧ x.size ≤ 100000 ∧ (b = false ∨ (b = true ∧ x = ⟨X.text.toArray⟩ ∧ X.leaves ≤ 12 ∧ X.nodes ≤ 16)) := by
  unfold doneV
  split
  · rename_i h
    refine ⟨_, _, rfl, ?_, .inr ⟨rfl, rfl, h.1, h.2⟩⟩
    have := text_length X
    change X.text.toArray.size ≤ 100000
    simp only [List.size_toArray]
    omega
  · exact ⟨_, _, rfl, by decide, .inl rfl⟩

def aTree : ByteArray := ⟨#[40, 97, 32, 42, 32, 42, 41]⟩
theorem parse_aTree : parse aTree.data.toList = some (.node 97 [.leaf, .leaf]) := by
  have h1 := parse_text (t := .node 97 [.leaf, .leaf]) (by simp [T.wf, T.wfL]) (by simp [T.leaves, T.leavesL]) (by simp [T.nodes, T.nodesL])
  rw [← h1]; congr 1
theorem graft_left {b : List UInt8} {t : T} (hb : parse b = some t) : graftOf aTree.data.toList 0 b = some (.node 97 [t, .leaf]) := by
  have h := graftOf_in (k := 0) parse_aTree hb (by simp [T.leaves, T.leavesL])
  have e : (T.node 97 [.leaf, .leaf]).fill (oneIn (T.node 97 [.leaf, .leaf]).leaves 0 t) = .node 97 [t, .leaf] := by simp [T.leaves, T.leavesL, oneIn, T.fill, T.fillL, List.replicate]
  rw [e] at h
  exact h

theorem in_told {p s : ByteArray} (h : inV p s = true) : inV p p = true ∧ ∃ (x : ByteArray) (b : Bool), graftV (graftOf aTree.data.toList 0 s.data.toList) = .tuple #[.string x, .bool b] ∧ x.size ≤ 100000 ∧ (b = false ∨ (b = true ∧ inV p x = true)) := by
  obtain ⟨x, t, hp, hs, hin⟩ := inV_some h
  obtain ⟨hpp, c, ks, hx⟩ := patOf_some hp
  constructor
  · rw [inV_yes hp hpp]
    obtain ⟨ts, hts⟩ := partsOf_self _ x (Nat.le_refl _)
    exact inOf_iff.2 ⟨x, by rw [hx, T.subs]; simp, ts, hts⟩
  · obtain ⟨y, b, h1, h2, h3⟩ := done_tld (.node 97 [t, .leaf])
    refine ⟨y, b, by rw [graft_left hs]; exact h1, h2, ?_⟩
    rcases h3 with h3 | ⟨h3, h4, h5, h6⟩
    · exact .inl h3
    · right
      refine ⟨h3, ?_⟩
      have htw := (parse_some hs).1
      have hpy : parse y.data.toList = some (.node 97 [t, .leaf]) := by
        rw [h4]
        exact parse_text (by simp [T.wf, T.wfL, htw]) h5 h6
      rw [inV_yes hp hpy]
      obtain ⟨q, hq, ts, hts⟩ := inOf_iff.1 hin
      exact inOf_iff.2 ⟨q, by rw [T.subs, T.subsL]; simp [hq], ts, hts⟩

theorem patAll_get : ∀ (n : Nat) (xs : List ByteArray) (ps : List T), xs.length = n → patAll xs = some ps → ∀ i (h : i < xs.length), ∃ p, patOf xs[i] = some p ∧ p ∈ ps := by
  intro n
  induction n with
  | zero => intro xs ps hn _ i hi; omega
  | succ n ih =>
    intro xs ps hn h i hi
    have e : patAll xs = patStep (patAll (xs.take n)) (xs[n]'(by omega)) := by
      rw [← patAll_take (by omega), List.take_of_length_le (by omega)]
    rw [e] at h
    cases hr : patAll (xs.take n) with
    | none => rw [hr] at h; simp [patStep] at h
    | some qs =>
      rw [hr] at h
      cases hp : patOf (xs[n]'(by omega)) with
      | none => simp [patStep, hp] at h
      | some p =>
        simp only [patStep, hp, Option.some.injEq] at h
        subst h
        by_cases hin : i < n
        · obtain ⟨p', h1, h2⟩ := ih (xs.take n) qs (by rw [List.length_take]; omega) hr i (by rw [List.length_take]; omega)
          rw [List.getElem_take] at h1
          exact ⟨p', h1, by simp [h2]⟩
        · have : i = n := by omega
          subst this
          exact ⟨p, hp, by simp⟩

theorem free_told {xs : List ByteArray} {s : ByteArray} (h : freeV xs s = true) : ∃ t, parse s.data.toList = some t ∧
    (∀ k, k < t.nodes → ∃ x : ByteArray, partV (cutOf s.data.toList (k : Int)) = .tuple #[.string x, .bool true] ∧ x.size ≤ 100000 ∧ freeV xs x = true) ∧ ∀ i (h : i < xs.length), inV xs[i] s = false := by
  unfold freeV at h
  split at h
  · rename_i ps t hps ht
    rw [List.all_eq_true] at h
    refine ⟨t, ht, fun k hk => ?_, fun i hi => ?_⟩
    · obtain ⟨hw, _, hl, hn⟩ := parse_some ht
      obtain ⟨r, p, a, hc⟩ := cutAt_some t k hk
      obtain ⟨h1, h2, h3⟩ := cut_subs t k r p a hc
      have hpw := (cutAt_wf t k r p a hw hc).2.1
      have hpp : parse (⟨p.text.toArray⟩ : ByteArray).data.toList = some p := parse_text hpw (by omega) (by omega)
      refine ⟨⟨p.text.toArray⟩, by rw [cutOf_nat ht, hc]; rfl, ?_, ?_⟩
      · have := text_length p
        change p.text.toArray.size ≤ 100000
        simp only [List.size_toArray]
        omega
      · simp only [freeV, hps, hpp]
        rw [List.all_eq_true]
        intro y hy
        have hy2 := h y hy
        simp only [Bool.not_eq_true'] at hy2 ⊢
        cases hb : inOf y p with
        | false => rfl
        | true =>
          obtain ⟨q, hq, ts, hts⟩ := inOf_iff.1 hb
          have : inOf y t = true := inOf_iff.2 ⟨q, h1 q hq, ts, hts⟩
          rw [this] at hy2; cases hy2
    · unfold patsOf at hps
      split at hps
      · cases hps
      · obtain ⟨p, h1, h2⟩ := patAll_get _ xs ps rfl hps i hi
        rw [inV_yes h1 ht]
        have := h p h2
        simpa using this
  · cases h

theorem all_told {p q : ByteArray} (h : (allV p q).isSome = true) : ∃ m : Nat, nodesOf (parse q.data.toList) = (m : Int) ∧ (allTx p q).length ≤ m ∧ m ≤ 16 ∧
    ∀ i (hi : i < (allTx p q).length), ((allTx p q)[i]).length ≤ 100000 ∧ inV p ⟨((allTx p q)[i]).toArray⟩ = true ∧ inV q ⟨((allTx p q)[i]).toArray⟩ = true := by
  unfold allTx at *
  unfold allV at h ⊢
  split at h
  · rename_i x y hx hy
    obtain ⟨hpx, c, ks, ex⟩ := patOf_some hx
    obtain ⟨hpy, d, js, ey⟩ := patOf_some hy
    obtain ⟨hwx, _, hlx, hnx⟩ := parse_some hpx
    obtain ⟨hwy, _, hly, hny⟩ := parse_some hpy
    refine ⟨y.nodes, by rw [hpy]; rfl, ?_, hny, ?_⟩
    · simp only [Option.getD_some, List.length_map]
      exact allUpTo_len x y _ y.nodes
    · intro i hi
      simp only [Option.getD_some, List.length_map] at hi
      simp only [Option.getD_some, List.getElem_map]
      obtain ⟨u, hu⟩ : ∃ u, u = (allUpTo x y (decide (p = q)) y.nodes)[i] := ⟨_, rfl⟩
      rw [← hu]
      have hm : u ∈ allUpTo x y (decide (p = q)) y.nodes := by rw [hu]; exact List.getElem_mem hi
      unfold allUpTo at hm
      rw [List.mem_filterMap] at hm
      obtain ⟨k, _, hk⟩ := hm
      unfold allStep at hk
      split at hk
      · cases hk
      · obtain ⟨h1, ⟨b1, h2⟩, v, h3, b2, h4⟩ := join_has ⟨c, ks, ex⟩ hk
        have hsm : u.leaves ≤ 12 ∧ u.nodes ≤ 16 := by simpa [small] using h1
        have huw := (joinOf_ok hwy hwx ⟨hlx, hnx⟩ ⟨hly, hny⟩ hk).1
        have htl := text_length u
        have hpu : parse (⟨u.text.toArray⟩ : ByteArray).data.toList = some u := parse_text huw hsm.1 hsm.2
        refine ⟨by omega, ?_, ?_⟩
        · rw [inV_yes hx hpu]
          exact inOf_iff.2 ⟨v, List.mem_of_getElem? h3, b2, h4⟩
        · rw [inV_yes hy hpu]
          rw [ey] at h2
          obtain ⟨e, us, rfl⟩ := partsOf_node h2
          exact inOf_iff.2 ⟨.node e us, by rw [T.subs]; simp, b1, by rw [ey]; exact h2⟩
  · cases h

end Go.Proofs.Ytfjodghnheliaaa
end
section
/- The promises FnIn, FnFree, FnAll. -/
namespace Go.Proofs.Ytfjodghnheliaaa
open Go.RowKit

theorem Ans.isP {v v' : Value} {w w' : World} {e : Ending} (h : Ans v w e w') (hv : v = v') : Ans v' w e w' := by rw [← hv]; exact h

/-- Two texts are drawn. -/
def DrPT (w : World) (e : Ending) (w' : World) : Prop := Below w.heap.size w w' ∧ ∃ s s2 : ByteArray, e = .returned (.tuple #[.string s, .string s2]) ∧ s.size ≤ 2000 ∧ s2.size ≤ 2000

set_option maxRecDepth 100000 in
set_option maxHeartbeats 1000000 in
theorem dPlaces_any (bs : List Nat) (a : Option Addr) (cap : Nat) (w : World) (hn : bs.length ≤ 9223372036854775807) (hcap : bs.length ≤ cap) (h8 : ∀ z ∈ bs, z ≤ 255) (hl : LiesB w a bs) :
    Calls Try.prog 25 #[.slice a bs.length cap] w (DrPT w) := by
  have HO := Lib.hid (l6Open_any bs a cap w hn hcap h8 hl)
  clear h8 hl
  go_enter Try.func25, Try.ntmps25
  go_wp2_with fail
  refine HO.out.mono ?_
  rintro e w1 ⟨rfl, hb1, hr1⟩
  have HX := Lib.hid (l91Pattern_any w.heap.size a cap (bs.take 2000) 0 w1 (by omega) hr1)
  have HB1 := Lib.hid hb1
  clear hb1 hr1
  go_wp2_with fail
  refine HX.out.mono ?_
  rintro e w2 ⟨hg2, s, q, rfl, hsz, hr2, hq⟩
  have HB2 := Lib.hid (below_over HB1.out hg2 (fun r e => by cases e; exact Nat.le_refl _))
  have HX2 := Lib.hid (l91Text_any w.heap.size a cap (bs.take 2000) 4 q w2 (by decide) (by omega) hr2)
  clear hg2 hr2 hq
  go_wp2_with fail
  refine HX2.out.mono ?_
  rintro e w3 ⟨hg3, s2, q3, rfl, hsz2, hr3, hq3⟩
  have HB3 := Lib.hid (below_over HB2.out hg3 (fun r e => by cases e; exact Nat.le_refl _))
  clear hg3 hr3
  go_wp2_with fail
  go_ret2
  exact ⟨HB3.out, s, s2, rfl, hsz, hsz2⟩

set_option maxRecDepth 100000 in
theorem dIn_any (bs : List Nat) (a : Option Addr) (cap : Nat) (w : World) (hn : bs.length ≤ 9223372036854775807) (hcap : bs.length ≤ cap) (h8 : ∀ z ∈ bs, z ≤ 255) (hl : LiesB w a bs) :
    Calls Try.prog 8 #[.slice a bs.length cap] w (DrPT w) := by
  have HO := Lib.hid (dPlaces_any bs a cap w hn hcap h8 hl)
  clear h8 hl
  go_enter Try.func8, Try.ntmps8
  go_wp2_with fail
  refine HO.out.mono ?_
  rintro e w1 ⟨hB, s, s2, rfl, h1, h2⟩
  go_wp2_with fail
  go_ret2
  exact ⟨hB, s, s2, rfl, h1, h2⟩

set_option maxRecDepth 100000 in
set_option maxHeartbeats 1000000 in
theorem dAll_any (bs : List Nat) (a : Option Addr) (cap : Nat) (w : World) (hn : bs.length ≤ 9223372036854775807) (hcap : bs.length ≤ cap) (h8 : ∀ z ∈ bs, z ≤ 255) (hl : LiesB w a bs) :
    Calls Try.prog 12 #[.slice a bs.length cap] w (DrPT w) := by
  have HO := Lib.hid (l6Open_any bs a cap w hn hcap h8 hl)
  clear h8 hl
  go_enter Try.func12, Try.ntmps12
  go_wp2_with fail
  refine HO.out.mono ?_
  rintro e w1 ⟨rfl, hb1, hr1⟩
  have HX := Lib.hid (l91Pattern_any w.heap.size a cap (bs.take 2000) 0 w1 (by omega) hr1)
  have HB1 := Lib.hid hb1
  clear hb1 hr1
  go_wp2_with fail
  refine HX.out.mono ?_
  rintro e w2 ⟨hg2, s, q, rfl, hsz, hr2, hq⟩
  have HB2 := Lib.hid (below_over HB1.out hg2 (fun r e => by cases e; exact Nat.le_refl _))
  have HP := Lib.hid (pick_any w.heap.size a cap q 3 (bs.take 2000) w2 hr2 (by omega) (by omega) (by omega))
  clear hg2 hr2
  go_wp2_with fail
  refine HP.out.mono ?_
  rintro e w3 ⟨⟨x, hx, rfl⟩, hg3, hs3, hr3⟩
  have HB3 := Lib.hid (below_over HB2.out hg3 (fun r e => by cases e; exact Nat.le_refl _))
  by_cases hx0 : x = 0
  · subst hx0
    clear hg3 hs3 hr3
    go_wp2_with fail
    go_ret2
    exact ⟨HB3.out, s, s, rfl, hsz, hsz⟩
  · have e1 : ((x : Int) == 0) = false := beq_false_of_ne (by omega)
    have HX2 := Lib.hid (l91Pattern_any w.heap.size a cap (bs.take 2000) (q + 1) w3 (by omega) hr3)
    clear hg3 hs3 hr3 hx0
    go_wp2_with fail
    refine HX2.out.mono ?_
    rintro e w4 ⟨hg4, s2, q4, rfl, hsz2, hr4, hq4⟩
    have HB4 := Lib.hid (below_over HB3.out hg4 (fun r e => by cases e; exact Nat.le_refl _))
    clear hg4 hr4
    go_wp2_with fail
    go_ret2
    exact ⟨HB4.out, s, s2, rfl, hsz, hsz2⟩

set_option maxRecDepth 100000 in
set_option maxHeartbeats 2000000 in
theorem pIn_any (bs : List Nat) (a : Option Addr) (cap : Nat) (w : World) (hl : LiesB w a bs) (h8 : ∀ z ∈ bs, z ≤ 255) (hn : bs.length ≤ 9223372036854775807) (hcap : bs.length ≤ cap) :
    Calls Try.prog 3 #[.slice a bs.length cap] w (Ans (.bool true) w) := by
  by_cases h : bs.length ≤ 1048576
  · have HD := Lib.hid (dIn_any bs a cap w hn hcap h8 hl)
    clear h8 hl
    go_enter Try.func3, Try.ntmps3
    go_wp2_with fail
    refine HD.out.mono ?_
    rintro e w1 ⟨hB1, p, s, rfl, hp, hs⟩
    have HB1 := Lib.hid hB1
    have A1_1 := Lib.hid (Below.refl w1.heap.size w1)
    clear hB1
    cases hi : inV p s with
    | false =>
      have HV : Hid (Value.bool (inV p s) = .bool false) := Lib.hid (by rw [hi])
      clear hi
      go_wp2_with fail
      refine ((iIn_any p s w1 (by omega) (by omega)).mono fun _ _ h => Ans.isP h HV.out).mono ?_
      rintro e w2 ⟨rfl, hB⟩
      have A1_2 := Lib.hid (below_step A1_1.out hB)
      have HB2 := Lib.hid (below_step HB1.out hB)
      clear hB
      go_wp2_with fail
      refine ((sIn_any p s w2 (by omega) (by omega)).mono fun _ _ h => Ans.isP h HV.out).mono ?_
      rintro e w3 ⟨rfl, hB⟩
      have A1_3 := Lib.hid (below_step A1_2.out hB)
      have HB3 := Lib.hid (below_step HB2.out hB)
      clear hB
      go_wp2_with fail
      go_ret
      exact ⟨rfl, HB3.out⟩
    | true =>
      obtain ⟨e1, x, q, e2, hxs, hq⟩ := in_told hi
      have HV : Hid (Value.bool (inV p s) = .bool true) := Lib.hid (by rw [hi])
      have HP : Hid (Value.bool (inV p p) = .bool true) := Lib.hid (by rw [e1])
      have HG := Lib.hid e2
      clear hi e1 e2
      go_wp2_with fail
      refine ((iIn_any p s w1 (by omega) (by omega)).mono fun _ _ h => Ans.isP h HV.out).mono ?_
      rintro e w2 ⟨rfl, hB⟩
      have A1_2 := Lib.hid (below_step A1_1.out hB)
      have HB2 := Lib.hid (below_step HB1.out hB)
      clear hB
      go_wp2_with fail
      refine ((sIn_any p s w2 (by omega) (by omega)).mono fun _ _ h => Ans.isP h HV.out).mono ?_
      rintro e w3 ⟨rfl, hB⟩
      have A1_3 := Lib.hid (below_step A1_2.out hB)
      have HB3 := Lib.hid (below_step HB2.out hB)
      clear hB
      go_wp2_with fail
      refine ((iGraft_any aTree 0 s w3 (by decide) (by omega)).mono fun _ _ h => Ans.isP h HG.out).mono ?_
      rintro e w4 ⟨rfl, hB⟩
      have A1_4 := Lib.hid (below_step A1_3.out hB)
      have HB4 := Lib.hid (below_step HB3.out hB)
      clear hB
      go_wp2_with fail
      refine ((iIn_any p p w4 (by omega) (by omega)).mono fun _ _ h => Ans.isP h HP.out).mono ?_
      rintro e w5 ⟨rfl, hB⟩
      have A1_5 := Lib.hid (below_step A1_4.out hB)
      have HB5 := Lib.hid (below_step HB4.out hB)
      clear hB
      rcases hq with rfl | ⟨rfl, hq⟩
      · clear hxs
        go_wp2_with fail
        go_ret
        exact ⟨rfl, HB5.out⟩
      · have HQ : Hid (Value.bool (inV p x) = .bool true) := Lib.hid (by rw [hq])
        clear hq
        go_wp2_with fail
        refine ((iIn_any p x w5 (by omega) (by omega)).mono fun _ _ h => Ans.isP h HQ.out).mono ?_
        rintro e w6 ⟨rfl, hB⟩
        have A1_6 := Lib.hid (below_step A1_5.out hB)
        have HB6 := Lib.hid (below_step HB5.out hB)
        clear hB
        go_wp2_with fail
        go_ret
        exact ⟨rfl, HB6.out⟩
  · clear hl h8
    go_enter Try.func3, Try.ntmps3
    go_wp2_with fail
    go_ret
    exact ⟨rfl, Below.refl _ _⟩

theorem Lies.none {w : World} {a : Option Addr} : Lies w a [] := fun _ h => by simp at h

set_option maxRecDepth 100000 in
set_option maxHeartbeats 1000000 in
/-- Equal lists of texts are told so. -/
theorem sameTexts_any (xs : List (List UInt8)) (n : Nat) (hnx : n = xs.length) (a b : Option Addr) (ca cb : Nat) (w : World) (hn : n ≤ 1048576) (ha : Lies w a xs) (hb : Lies w b xs) :
    Calls Try.prog 15 #[.slice a n ca, .slice b n cb] w (Ans (.bool true) w) := by
  have HA := Lib.hid ha
  have HB := Lib.hid hb
  have HNN := Lib.hid hnx
  clear ha hb hnx
  go_enter Try.func15, Try.ntmps15
  go_wp2_with fail
  go_loopw [5] (fun i wr => ∃ k : Nat, k ≤ n ∧ i = .int .i64 k ∧ Below w.heap.size w wr) (fun i _ => n - (intOf i).toNat)
  case atStart => exact ⟨0, Nat.zero_le _, rfl, Below.refl _ _⟩
  case round =>
    obtain ⟨k, hk, rfl, hB⟩ := hrel
    by_cases hlt : k < n
    · have hlt' : k < xs.length := by rw [← HNN.out]; exact hlt
      obtain ⟨b1, rfl, c1⟩ := (HA.out.below hB) k hlt'
      obtain ⟨b2, rfl, c2⟩ := (HB.out.below hB) k hlt'
      obtain ⟨s, hs⟩ : ∃ s : ByteArray, s = ⟨(xs[k]).toArray⟩ := ⟨_, rfl⟩
      rw [← hs] at c1 c2
      have k0 : (0 : Int) ≤ k := by omega
      have HBR := Lib.hid hB
      clear hs hB
      go_wp2_with fail
      go_quiet (fail)
      go_wp2_with fail
      go_roundw
      case rel => exact ⟨k + 1, by omega, by go_num, below_drewN HBR.out nq⟩
      case measure => simp [intOf]; omega
    · go_wp2_with fail
      go_ret
      exact ⟨rfl, hB⟩

set_option maxRecDepth 100000 in
set_option maxHeartbeats 2000000 in
theorem pAll_any (bs : List Nat) (a : Option Addr) (cap : Nat) (w : World) (hl : LiesB w a bs) (h8 : ∀ z ∈ bs, z ≤ 255) (hn : bs.length ≤ 9223372036854775807) (hcap : bs.length ≤ cap) :
    Calls Try.prog 4 #[.slice a bs.length cap] w (Ans (.bool true) w) := by
  by_cases h : bs.length ≤ 1048576
  · have HD := Lib.hid (dAll_any bs a cap w hn hcap h8 hl)
    clear h8 hl
    go_enter Try.func4, Try.ntmps4
    go_wp2_with fail
    refine HD.out.mono ?_
    rintro e w1 ⟨hB1, p, s, rfl, hp, hs⟩
    have HB1 := Lib.hid hB1
    have A1_1 := Lib.hid (Below.refl w1.heap.size w1)
    clear hB1
    cases hv : (allV p s).isSome with
    | false =>
      have hx0 : allTx p s = [] := by
        unfold allTx
        cases ha : allV p s with
        | none => rfl
        | some _ => rw [ha] at hv; cases hv
      have HV := Lib.hid hv
      have HX := Lib.hid hx0
      clear hv hx0
      have hc := iAll_any p s w1 (by omega) (by omega)
      rw [HX.out, HV.out] at hc
      have HC := Lib.hid hc
      clear hc
      go_wp2_with fail
      refine (HC.out).mono ?_
      rintro e w2 ⟨hB, ax, cx, rfl, _, _⟩
      have A1_2 := Lib.hid (below_step A1_1.out hB)
      have HB2 := Lib.hid (below_step HB1.out hB)
      clear hB
      have hc := sAll_any p s w2 (by omega) (by omega)
      rw [HX.out, HV.out] at hc
      have HC := Lib.hid hc
      clear hc
      go_wp2_with fail
      refine (HC.out).mono ?_
      rintro e w3 ⟨hB, ay, cy, rfl, _⟩
      have A1_3 := Lib.hid (below_step A1_2.out hB)
      have HB3 := Lib.hid (below_step HB2.out hB)
      clear hB
      go_wp2_with fail
      refine (sameTexts_any [] 0 rfl ax ay cx cy w3 (by omega) Lies.none Lies.none).mono ?_
      rintro e w4 ⟨rfl, hB⟩
      have A1_4 := Lib.hid (below_step A1_3.out hB)
      have HB4 := Lib.hid (below_step HB3.out hB)
      clear hB
      go_wp2_with fail
      refine (sameTexts_any [] 0 rfl ax ay cx cy w4 (by omega) Lies.none Lies.none).mono ?_
      rintro e w5 ⟨rfl, hB⟩
      have A1_5 := Lib.hid (below_step A1_4.out hB)
      have HB5 := Lib.hid (below_step HB4.out hB)
      clear hB
      go_wp2_with fail
      go_ret
      exact ⟨rfl, HB5.out⟩
    | true =>
      obtain ⟨m, hm, hlen, hm16, hall⟩ := all_told hv
      obtain ⟨tx, htx⟩ : ∃ tx, tx = allTx p s := ⟨_, rfl⟩
      have HTX := Lib.hid htx
      obtain ⟨n, hn⟩ : ∃ n, n = tx.length := ⟨_, rfl⟩
      have HNN := Lib.hid hn
      have HV := Lib.hid hv
      have HND : Hid (Value.int .i64 (nodesOf (parse s.data.toList)) = .int .i64 m) := Lib.hid (by rw [hm])
      rw [← htx] at hlen
      have hnm : n ≤ m := by omega
      have HALL : Hid (∀ i (hi : i < tx.length), ∃ x : ByteArray, (⟨(tx[i]).toArray⟩ : ByteArray) = x ∧ x.size ≤ 100000 ∧ inV p x = true ∧ inV s x = true) := Lib.hid (fun i hi => by subst htx; obtain ⟨h1, h2, h3⟩ := hall i hi; exact ⟨_, rfl, by change (_ : List UInt8).toArray.size ≤ 100000; simpa using h1, h2, h3⟩)
      have dle : decide ((n : Int) ≤ (m : Int)) = true := decide_eq_true (by omega)
      have dle2 : decide ((m : Int) < (n : Int)) = false := decide_eq_false (by omega)
      clear hv hm hlen hall htx hn
      have hc : Calls Try.prog 13 #[.string p, .string s] w1 (fun e w' => Below w1.heap.size w1 w' ∧ ∃ a cap, e = .returned (.tuple #[.slice a n cap, .bool true]) ∧ Lies w' a tx) := by
        have h := iAll_any p s w1 (by omega) (by omega)
        rw [HV.out, ← HTX.out] at h
        refine h.mono ?_
        rintro e w' ⟨h1, a, cp, h2, h3, _⟩
        exact ⟨h1, a, cp, by rw [h2, ← HNN.out], h3⟩
      have HC := Lib.hid hc
      clear hc
      go_wp2_with fail
      refine (HC.out).mono ?_
      rintro e w2 ⟨hB, ax, cx, rfl, hx⟩
      have A1_2 := Lib.hid (below_step A1_1.out hB)
      have HB2 := Lib.hid (below_step HB1.out hB)
      have HXX := Lib.hid hx
      clear hx
      clear hB
      have A2_2 := Lib.hid (Below.refl w2.heap.size w2)
      have hc : Calls Try.prog 14 #[.string p, .string s] w2 (fun e w' => Below w2.heap.size w2 w' ∧ ∃ a cap, e = .returned (.tuple #[.slice a n cap, .bool true]) ∧ Lies w' a tx) := by
        have h := sAll_any p s w2 (by omega) (by omega)
        rw [HV.out, ← HTX.out] at h
        refine h.mono ?_
        rintro e w' ⟨h1, a, cp, h2, h3⟩
        exact ⟨h1, a, cp, by rw [h2, ← HNN.out], h3⟩
      have HC := Lib.hid hc
      clear hc
      go_wp2_with fail
      refine (HC.out).mono ?_
      rintro e w3 ⟨hB, ay, cy, rfl, hy⟩
      have A1_3 := Lib.hid (below_step A1_2.out hB)
      have A2_3 := Lib.hid (below_step A2_2.out hB)
      have HB3 := Lib.hid (below_step HB2.out hB)
      have HYY := Lib.hid hy
      clear hy
      clear hB
      have A3_3 := Lib.hid (Below.refl w3.heap.size w3)
      go_wp2_with fail
      refine (sameTexts_any tx n HNN.out ax ay cx cy w3 (by omega) (HXX.out.below A2_3.out) (HYY.out.below A3_3.out)).mono ?_
      rintro e w4 ⟨rfl, hB⟩
      have A1_4 := Lib.hid (below_step A1_3.out hB)
      have A2_4 := Lib.hid (below_step A2_3.out hB)
      have A3_4 := Lib.hid (below_step A3_3.out hB)
      have HB4 := Lib.hid (below_step HB3.out hB)
      clear hB
      go_wp2_with fail
      go_loopw [9] (fun iv wr => ∃ k : Nat, k ≤ n ∧ iv = .int .i64 k ∧ Below w4.heap.size w4 wr) (fun iv _ => n - (intOf iv).toNat)
      case atStart => exact ⟨0, by omega, rfl, Below.refl _ _⟩
      case round =>
        obtain ⟨k, hk, rfl, hB⟩ := hrel
        have HBR := Lib.hid hB
        by_cases hlt : k < n
        · have hkx : k < tx.length := by rw [← HNN.out]; exact hlt
          obtain ⟨gx, egx, d0⟩ := (HXX.out.below (below_step A2_4.out hB)) k hkx
          subst egx
          obtain ⟨x, hx, hxs, hxp, hxq⟩ := HALL.out k hkx
          rw [hx] at d0
          have HXP : Hid (Value.bool (inV p x) = .bool true) := Lib.hid (by rw [hxp])
          have HXQ : Hid (Value.bool (inV s x) = .bool true) := Lib.hid (by rw [hxq])
          have k0 : (0 : Int) ≤ (k : Int) := by omega
          clear hB hx hxp hxq
          go_wp2_with fail
          refine ((iIn_any p x wr (by omega) (by omega)).mono fun _ _ h => Ans.isP h HXP.out).mono ?_
          rintro e u1 ⟨rfl, hB⟩
          have U1 := Lib.hid (below_step HBR.out hB)
          have d1 := keep1 hB d0
          clear hB
          go_wp2_with fail
          refine ((iIn_any s x u1 (by omega) (by omega)).mono fun _ _ h => Ans.isP h HXQ.out).mono ?_
          rintro e u2 ⟨rfl, hB⟩
          have U2 := Lib.hid (below_step U1.out hB)
          clear hB
          go_wp2_with fail
          go_roundw
          case rel => exact ⟨k + 1, by omega, by go_num, U2.out⟩
          case measure => simp [intOf]; omega
        · clear hB
          go_wp2_with fail
          refine ((iNodes_any s wr (by omega)).mono fun _ _ h => Ans.isP h HND.out).mono ?_
          rintro e u1 ⟨rfl, hB⟩
          go_wp2_with fail
          go_ret
          exact ⟨rfl, below_step (below_step HB4.out HBR.out) hB⟩
  · clear hl h8
    go_enter Try.func4, Try.ntmps4
    go_wp2_with fail
    go_ret
    exact ⟨rfl, Below.refl _ _⟩

theorem owns_txL {w : World} {base g n c : Nat} {ss : List ByteArray} (hn : n = ss.length) (h : w.ownsRow base 9 1 (.slice (some ⟨g, 0, none⟩) n c) n (ss.map Value.string)) : TxL w g ss := fun j hj => by
  rw [h.cellAt j (by omega), List.getElem?_map, List.getElem?_eq_getElem hj]; rfl

theorem TxL.moved {w w' : World} {R g : Nat} {ss : List ByteArray} (h : TxL w g ss) (hg : w.grownBy w' (some R)) (hne : g ≠ R) : TxL w' g ss := fun j hj =>
  keeps_row hg (fun b => b ≠ R) (fun _ h => h) _ _ hne (h j hj)

/-- Patterns are drawn. -/
def PatsDr (R : Nat) (a : Option Addr) (cap : Nat) (bs : List Nat) (p : Nat) (w : World) (e : Ending) (w' : World) : Prop :=
  w.grownBy w' (some R) ∧ ∃ (ss : List ByteArray) (g n c q : Nat), e = .returned (.slice (some ⟨g, 0, none⟩) n c) ∧ n = ss.length ∧ n ≤ 3 ∧ (∀ j (h : j < ss.length), (ss[j]).size ≤ 2000) ∧ TxL w' g ss ∧ w.heap.size ≤ g ∧ RdR w' R a cap bs q ∧ q ≤ p + 100

set_option maxRecDepth 100000 in
set_option maxHeartbeats 2000000 in
theorem l91Patterns_any (R : Nat) (a : Option Addr) (cap : Nat) (bs : List Nat) (p : Nat) (w : World) (hp : p ≤ 100) (h : RdR w R a cap bs p) :
    Calls Try.prog 46 #[.pointer (some ⟨R, 0, none⟩)] w (PatsDr R a cap bs p w) := by
  have hRw : R < w.heap.size := h.cells.2.2.2
  obtain ⟨i0, hi0, hzz, hzs, hzby⟩ := info_parts info9
  obtain ⟨w0, hw0⟩ : ∃ w0, w0 = w.alloc (.cells #[] 9 (0, 0)) := ⟨_, rfl⟩
  have hg0 : w.grownBy w0 none := by rw [hw0]; exact grownBy_below (grownBy_refl w none) ((Below.refl _ _).alloc (Nat.le_refl _) _)
  have hgR0 : w.grownBy w0 (some R) := by rw [hw0]; exact grownBy_below (grownBy_refl w (some R)) ((Below.refl _ _).alloc (Nat.le_refl _) _)
  have hr0 := h.grown hg0 (fun _ e => by cases e)
  have hown0 : w0.ownsRow w.heap.size 9 1 (.slice (some ⟨w.heap.size, 0, none⟩) 0 0) 0 (([] : List ByteArray).map Value.string) := by rw [hw0]; exact World.ownsRow_made w #[] 0 (Nat.le_refl _) (by simp [maxLen]) rfl
  have HP1 := Lib.hid (pick_any R a cap p 3 bs w0 hr0 (by omega) (by omega) (by omega))
  have HW0 := Lib.hid hw0
  have HG0 := Lib.hid hgR0
  have HOWN0 := Lib.hid hown0
  clear h hw0 hg0 hgR0 hr0 hown0
  go_enter Try.func46, Try.ntmps46
  go_wp2_with fail
  rw [← HW0.out]
  refine HP1.out.mono ?_
  rintro e w1 ⟨⟨k0, hk0, rfl⟩, hg1, hs1, hr1⟩
  have HG1 := Lib.hid (grownBy_trans HG0.out hg1)
  have HOWN1 := Lib.hid (owns_kept_some HOWN0.out hg1 hRw)
  have HR1 := Lib.hid hr1
  clear hg1 hs1 hr1
  go_wp2_with fail
  go_loopw [3, 5] (fun lv iv wr => ∃ (ss : List ByteArray) (k g vc q : Nat), k = ss.length ∧ k ≤ k0 ∧ iv = .int .i64 k ∧ lv = .slice (some ⟨g, 0, none⟩) k vc ∧ wr.ownsRow w.heap.size 9 1 (.slice (some ⟨g, 0, none⟩) k vc) k (ss.map Value.string) ∧ RdR wr R a cap bs q ∧ q ≤ p + 1 + k * 30 ∧ (∀ j (h : j < ss.length), (ss[j]).size ≤ 2000) ∧ w.grownBy wr (some R)) (fun _ iv _ => k0 - (intOf iv).toNat)
  case atStart => exact ⟨[], 0, w.heap.size, 0, p + 1, rfl, by omega, rfl, rfl, HOWN1.out, HR1.out, by omega, fun j hj => by simp at hj, HG1.out⟩
  case round =>
    obtain ⟨ss, k, g, vc, q, hky, hk, rfl, rfl, hown, hr, hq, hsm, hgw⟩ := hrel
    have HKY := Lib.hid hky
    have HOWN := Lib.hid hown
    have HR := Lib.hid hr
    have HSM := Lib.hid hsm
    have HGW := Lib.hid hgw
    have hwr := hgw.size
    clear hky hown hsm hgw
    by_cases hlt : k < k0
    · have HP2 := Lib.hid (l91Pattern_any R a cap bs q wr (by omega) hr)
      clear hr
      go_wp2_with fail
      refine HP2.out.mono ?_
      rintro e w2 ⟨hg2, s, q2, rfl, hss, hr2, hq2⟩
      have HG2 := Lib.hid (grownBy_trans HGW.out hg2)
      have HOWN2 := Lib.hid (owns_kept_some HOWN.out hg2 hRw)
      have HR2 := Lib.hid hr2
      have hw2 := HG2.out.size
      have HOA := Lib.hid (World.ownsRow.alloc HOWN2.out (.cells #[.string s] 9 (0, 0)))
      clear hg2 hr2
      go_wp2_with (at_builtin; refine wpList_append_own_at _ rfl _ _ 29 rfl w.heap.size 9 i0 (.string ⟨#[]⟩) 1 16 Try.underlying29 hi0 hzz hzs hzby rfl (by decide) (.slice (some ⟨g, 0, none⟩) k vc) k (ss.map Value.string) rfl HOA.out ⟨w2.heap.size, 0, none⟩ 1 1 [.string s] rfl rfl (cells_one (by simp) _) (by simp [Value.oneCell']) (by unfold maxLen; omega) (by omega) (by simp; omega) ?_; intro v3 w6 hown3 hg6 hnil3 hat3)
      obtain ⟨g3, q9, rfl, _, _, _⟩ := owns_some hown3 (fun e => by have := hnil3.1 e; simp at this)
      have ha4 : Below w2.heap.size w2 (w2.alloc (.cells #[.string s] 9 (0, 0))) := (Below.refl _ _).alloc (Nat.le_refl _) _
      have HO6 : Hid (w6.ownsRow w.heap.size 9 1 (.slice (some ⟨g3, 0, none⟩) (k + 1) q9) (k + 1) ((ss ++ [s]).map Value.string)) := Lib.hid (by rw [List.map_append]; exact hown3)
      have HR6 := Lib.hid ((HR2.out.grown (grownBy_below (grownBy_refl _ none) ha4) (fun _ e => by cases e)).grown hg6 (fun r e => by have := (HOWN2.out.lt r e).1; omega))
      have HG6 := Lib.hid (grownBy_over (grownBy_below HG2.out ha4) hg6 (fun r e => (HOWN2.out.lt r e).1))
      have HS6 : Hid (∀ j (h : j < (ss ++ [s]).length), ((ss ++ [s])[j]).size ≤ 2000) := Lib.hid (fun j hj => by
        by_cases e : j < ss.length
        · rw [List.getElem_append_left e]; exact HSM.out j e
        · have : j = ss.length := by simp at hj; omega
          subst this
          simp [hss])
      clear hown3 hg6 hnil3 hat3 ha4
      exact ⟨⟨ss ++ [s], k + 1, g3, q9, q2, by rw [List.length_append]; have := HKY.out; simp; omega, by omega, by go_num, rfl, HO6.out, HR6.out, by omega, HS6.out, HG6.out⟩, by simp [intOf]; omega⟩
    · have hgb := (HOWN.out.lt g rfl).1
      clear hr
      go_wp2_with fail
      go_ret
      exact ⟨HGW.out, ss, g, k, vc, q, rfl, HKY.out, by omega, HSM.out, owns_txL HKY.out HOWN.out, hgb, HR.out, by omega⟩

/-- Patterns and a text are drawn. -/
def DrSS (w : World) (e : Ending) (w' : World) : Prop :=
  Below w.heap.size w w' ∧ ∃ (ss : List ByteArray) (g n c : Nat) (s : ByteArray), e = .returned (.tuple #[.slice (some ⟨g, 0, none⟩) n c, .string s]) ∧ n = ss.length ∧ n ≤ 3 ∧ (∀ j (h : j < ss.length), (ss[j]).size ≤ 2000) ∧ TxL w' g ss ∧ s.size ≤ 2000

set_option maxRecDepth 100000 in
set_option maxHeartbeats 1000000 in
theorem dFree_any (bs : List Nat) (a : Option Addr) (cap : Nat) (w : World) (hn : bs.length ≤ 9223372036854775807) (hcap : bs.length ≤ cap) (h8 : ∀ z ∈ bs, z ≤ 255) (hl : LiesB w a bs) :
    Calls Try.prog 17 #[.slice a bs.length cap] w (DrSS w) := by
  have HO := Lib.hid (l6Open_any bs a cap w hn hcap h8 hl)
  clear h8 hl
  go_enter Try.func17, Try.ntmps17
  go_wp2_with fail
  refine HO.out.mono ?_
  rintro e w1 ⟨rfl, hb1, hr1⟩
  have HX := Lib.hid (l91Patterns_any w.heap.size a cap (bs.take 2000) 0 w1 (by omega) hr1)
  have HB1 := Lib.hid hb1
  have hRw1 := hr1.cells.2.2.2
  clear hb1 hr1
  go_wp2_with fail
  refine HX.out.mono ?_
  rintro e w3 ⟨hg3, ss, g, n, c, q, rfl, hny, hn60, hsm, htl, hge, hr3, hq⟩
  have HB3 := Lib.hid (below_over HB1.out hg3 (fun r e => by cases e; exact Nat.le_refl _))
  have HNY := Lib.hid hny
  have HTL := Lib.hid htl
  have HT := Lib.hid (l91Text_any w.heap.size a cap (bs.take 2000) 3 q w3 (by decide) (by omega) hr3)
  clear hg3 hr3 hny htl
  go_wp2_with fail
  refine HT.out.mono ?_
  rintro e w4 ⟨hg4, s, q4, rfl, hss, hr4, hq4⟩
  have HB4 := Lib.hid (below_over HB3.out hg4 (fun r e => by cases e; exact Nat.le_refl _))
  have HT4 := Lib.hid (HTL.out.moved hg4 (by omega))
  clear hg4 hr4
  go_wp2_with fail
  go_ret2
  exact ⟨HB4.out, ss, g, n, c, s, rfl, HNY.out, hn60, hsm, HT4.out, hss⟩

set_option maxRecDepth 100000 in
set_option maxHeartbeats 2000000 in
theorem pFree_any (bs : List Nat) (a : Option Addr) (cap : Nat) (w : World) (hl : LiesB w a bs) (h8 : ∀ z ∈ bs, z ≤ 255) (hn : bs.length ≤ 9223372036854775807) (hcap : bs.length ≤ cap) :
    Calls Try.prog 5 #[.slice a bs.length cap] w (Ans (.bool true) w) := by
  by_cases h : bs.length ≤ 1048576
  · have HD := Lib.hid (dFree_any bs a cap w hn hcap h8 hl)
    clear h8 hl
    go_enter Try.func5, Try.ntmps5
    go_wp2_with fail
    refine HD.out.mono ?_
    rintro e w1 ⟨hB1, xs, g, n, c, s, rfl, hny, hn3, hsm, htl, hss⟩
    have HB1 := Lib.hid hB1
    have A1_1 := Lib.hid (Below.refl w1.heap.size w1)
    have HL := Lib.hid htl
    have HNY := Lib.hid hny
    have HSZ : Hid (∀ j (h : j < xs.length), (xs[j]).size ≤ 1048576) := Lib.hid (fun j hj => by have := hsm j hj; omega)
    clear hB1 htl hny
    cases hv : freeV xs s with
    | false =>
      have HV : Hid (Value.bool (freeV xs s) = .bool false) := Lib.hid (by rw [hv])
      clear hv hsm
      go_wp2_with fail
      refine ((iFree_any xs n HNY.out g c s w1 (by omega) HSZ.out (by omega) (HL.out.below A1_1.out)).mono fun _ _ h => Ans.isP h HV.out).mono ?_
      rintro e w2 ⟨rfl, hB⟩
      have A1_2 := Lib.hid (below_step A1_1.out hB)
      have HB2 := Lib.hid (below_step HB1.out hB)
      clear hB
      go_wp2_with fail
      refine ((sFree_any xs n HNY.out g c s w2 (by omega) HSZ.out (by omega) (HL.out.below A1_2.out)).mono fun _ _ h => Ans.isP h HV.out).mono ?_
      rintro e w3 ⟨rfl, hB⟩
      have A1_3 := Lib.hid (below_step A1_2.out hB)
      have HB3 := Lib.hid (below_step HB2.out hB)
      clear hB
      go_wp2_with fail
      go_ret
      exact ⟨rfl, HB3.out⟩
    | true =>
      obtain ⟨t, ht, hparts, hnot⟩ := free_told hv
      have hn16 := (parse_some ht).2.2.2
      obtain ⟨N, hN⟩ : ∃ N, N = t.nodes := ⟨_, rfl⟩
      have HV : Hid (Value.bool (freeV xs s) = .bool true) := Lib.hid (by rw [hv])
      have HND : Hid (Value.int .i64 (nodesOf (parse s.data.toList)) = .int .i64 N) := Lib.hid (by rw [ht, hN]; rfl)
      have HPT : Hid (∀ k, k < N → ∃ x : ByteArray, partV (cutOf s.data.toList (k : Int)) = .tuple #[.string x, .bool true] ∧ x.size ≤ 100000 ∧ freeV xs x = true) := Lib.hid (fun k hk => hparts k (by omega))
      have HNOT := Lib.hid hnot
      have HSM := Lib.hid hsm
      rw [← hN] at hn16
      clear hv ht hparts hnot hN hsm
      go_wp2_with fail
      refine ((iFree_any xs n HNY.out g c s w1 (by omega) HSZ.out (by omega) (HL.out.below A1_1.out)).mono fun _ _ h => Ans.isP h HV.out).mono ?_
      rintro e w2 ⟨rfl, hB⟩
      have A1_2 := Lib.hid (below_step A1_1.out hB)
      have HB2 := Lib.hid (below_step HB1.out hB)
      clear hB
      go_wp2_with fail
      refine ((sFree_any xs n HNY.out g c s w2 (by omega) HSZ.out (by omega) (HL.out.below A1_2.out)).mono fun _ _ h => Ans.isP h HV.out).mono ?_
      rintro e w3 ⟨rfl, hB⟩
      have A1_3 := Lib.hid (below_step A1_2.out hB)
      have HB3 := Lib.hid (below_step HB2.out hB)
      clear hB
      go_wp2_with fail
      go_loopw [7] (fun iv wr => ∃ k : Nat, k ≤ N ∧ iv = .int .i64 k ∧ Below w3.heap.size w3 wr) (fun iv _ => N - (intOf iv).toNat)
      case atStart => exact ⟨0, by omega, rfl, Below.refl _ _⟩
      case round =>
        obtain ⟨k, hk, rfl, hB⟩ := hrel
        have HBR := Lib.hid hB
        have HNO := Lib.hid ((iNodes_any s wr (by omega)).mono fun _ _ h => Ans.isP h HND.out)
        clear hB
        by_cases hlt : k < N
        · obtain ⟨x, hx, hxs, hxo⟩ := HPT.out k hlt
          have HX := Lib.hid hx
          have HXO : Hid (Value.bool (freeV xs x) = .bool true) := Lib.hid (by rw [hxo])
          clear hx hxo
          go_wp2_with fail
          refine HNO.out.mono ?_
          rintro e u1 ⟨rfl, hB⟩
          have U1 := Lib.hid (below_step HBR.out hB)
          clear hB
          go_wp2_with fail
          refine ((iPart_any s (k : Int) u1 (by omega) (by omega)).mono fun _ _ h => Ans.isP h HX.out).mono ?_
          rintro e u2 ⟨rfl, hB⟩
          have U2 := Lib.hid (below_step U1.out hB)
          clear hB
          go_wp2_with fail
          refine ((iFree_any xs n HNY.out g c x u2 (by omega) HSZ.out (by omega) (HL.out.below (below_step A1_3.out U2.out))).mono fun _ _ h => Ans.isP h HXO.out).mono ?_
          rintro e u3 ⟨rfl, hB⟩
          have U3 := Lib.hid (below_step U2.out hB)
          clear hB
          go_wp2_with fail
          go_roundw
          case rel => exact ⟨k + 1, by omega, by go_num, U3.out⟩
          case measure => simp [intOf]; omega
        · have hkn : k = N := by omega
          subst hkn
          go_wp2_with fail
          refine HNO.out.mono ?_
          rintro e u1 ⟨rfl, hB⟩
          have U1 := Lib.hid (below_step HBR.out hB)
          have HBU := Lib.hid (below_step HB3.out U1.out)
          have HAU := Lib.hid (below_step A1_3.out U1.out)
          clear hB
          go_wp2_with fail
          go_loopw [10] (fun iv wq => ∃ i : Nat, i ≤ n ∧ iv = .int .i64 i ∧ Below u1.heap.size u1 wq) (fun iv _ => n - (intOf iv).toNat)
          case atStart => exact ⟨0, by omega, rfl, Below.refl _ _⟩
          case round =>
            rename_i wq
            obtain ⟨i, hi, rfl, hB⟩ := hrel
            have HBQ := Lib.hid hB
            by_cases hlt2 : i < n
            · have hix : i < xs.length := by rw [← HNY.out]; exact hlt2
              have d0 := (HL.out.below (below_step HAU.out hB)) i hix
              have hxsz := HSM.out i hix
              obtain ⟨y, hy⟩ : ∃ y, y = xs[i] := ⟨_, rfl⟩
              have HNY2 : Hid (Value.bool (inV y s) = .bool false) := Lib.hid (by rw [hy, HNOT.out i hix])
              rw [← hy] at d0 hxsz
              have i0' : (0 : Int) ≤ (i : Int) := by omega
              clear hB hy
              go_wp2_with fail
              refine ((iIn_any y s _ (by omega) (by omega)).mono fun _ _ h => Ans.isP h HNY2.out).mono ?_
              rintro e u2 ⟨rfl, hB⟩
              have U2 := Lib.hid (below_step HBQ.out hB)
              clear hB
              go_wp2_with fail
              go_roundw
              case rel => exact ⟨i + 1, by omega, by go_num, U2.out⟩
              case measure => simp [intOf]; omega
            · go_wp2_with fail
              go_ret
              exact ⟨rfl, below_step HBU.out HBQ.out⟩
  · clear hl h8
    go_enter Try.func5, Try.ntmps5
    go_wp2_with fail
    go_ret
    exact ⟨rfl, Below.refl _ _⟩

end Go.Proofs.Ytfjodghnheliaaa
end
end
section
/- What was put can be put back: FnPut, FnPlaces as mathematics. No walk here. -/
namespace Go.Proofs.Ytfjodghnheliaaa

mutual
/-- What is filled in is found again. -/
theorem partsOf_fill : ∀ (b : T) (us : List T), b.leaves ≤ us.length → b.partsOf (b.fill us) = some (us.take b.leaves)
  | .leaf, us, h => by
    rw [T.leaves] at h ⊢
    cases us with
    | nil => simp at h
    | cons u us => rw [T.fill, List.headD_cons, partsOf_leaf]; rfl
  | .node c ks, us, h => by
    rw [T.leaves] at h ⊢
    rw [T.fill, partsOf_same (by rw [fillL_length])]
    exact partsL_fill ks us h
theorem partsL_fill : ∀ (ks us : List T), T.leavesL ks ≤ us.length → T.partsL ks (T.fillL ks us) = some (us.take (T.leavesL ks))
  | [], us, _ => by rw [T.fillL, partsL_nil, T.leavesL]; rfl
  | k :: ks, us, h => by
    rw [T.leavesL] at h ⊢
    rw [T.fillL, partsL_cons, partsOf_fill k us (by omega), partsL_fill ks (us.drop k.leaves) (by rw [List.length_drop]; omega)]
    simp only
    rw [List.take_add]
end

mutual
/-- Parts that are filled in again. -/
theorem fill_parts : ∀ (p q : T) (ts rest : List T), p.partsOf q = some ts → ts.length = p.leaves ∧ p.fill (ts ++ rest) = q
  | .leaf, q, ts, rest, h => by
    rw [partsOf_leaf] at h
    cases h
    exact ⟨by simp [T.leaves], by rw [T.fill]; rfl⟩
  | .node c ks, .leaf, ts, rest, h => by rw [partsOf_no] at h; cases h
  | .node c ks, .node d js, ts, rest, h => by
    by_cases hcd : c = d ∧ ks.length = js.length
    · obtain ⟨rfl, hl⟩ := hcd
      rw [partsOf_same hl] at h
      obtain ⟨h1, h2⟩ := fillL_parts ks js ts rest hl h
      exact ⟨by rw [T.leaves]; exact h1, by rw [T.fill, h2]⟩
    · rw [partsOf_unlike hcd] at h; cases h
theorem fillL_parts : ∀ (ks js ts rest : List T), ks.length = js.length → T.partsL ks js = some ts → ts.length = T.leavesL ks ∧ T.fillL ks (ts ++ rest) = js
  | [], [], ts, rest, _, h => by
    rw [partsL_nil] at h
    cases h
    exact ⟨by simp [T.leavesL], by rw [T.fillL]⟩
  | [], _ :: _, _, _, hl, _ => by simp at hl
  | _ :: _, [], _, _, hl, _ => by simp at hl
  | k :: ks, j :: js, ts, rest, hl, h => by
    rw [partsL_cons] at h
    split at h
    · cases h
    · rename_i a ha
      split at h
      · cases h
      · rename_i b hb
        cases h
        obtain ⟨h1, h2⟩ := fill_parts k j a (b ++ rest) ha
        obtain ⟨h3, h4⟩ := fillL_parts ks js b rest (by simpa using hl) hb
        refine ⟨by rw [List.length_append, T.leavesL, h1, h3], ?_⟩
        rw [T.fillL, List.append_assoc, h2, ← h1, List.drop_left, h4]
end

mutual
/-- What was put is cut off there. -/
theorem cut_after : ∀ (t : T) (k : Nat) (r q : T) (a : Nat) (c : UInt8) (us : List T), t.cutAt k = some (r, q, a) → (t.putAt k (.node c us)).cutAt k = some (r, .node c us, a)
  | .leaf, k, r, q, a, c, us, h => by rw [T.cutAt] at h; cases h
  | .node d ks, k, r, q, a, c, us, h => by
    rw [T.cutAt] at h
    rw [T.putAt]
    by_cases h0 : k = 0
    · rw [if_pos h0] at h ⊢
      simp only [Option.some.injEq, Prod.mk.injEq] at h
      obtain ⟨rfl, _, rfl⟩ := h
      rw [T.cutAt, if_pos h0]
    · rw [if_neg h0] at h ⊢
      split at h
      · cases h
      · rename_i rs p' a' he
        cases h
        have hh := cutL_after ks (k - 1) _ _ _ c us he
        rw [T.cutAt, if_neg h0, hh]
theorem cutL_after : ∀ (ks : List T) (k : Nat) (rs : List T) (q : T) (a : Nat) (c : UInt8) (us : List T), T.cutL ks k = some (rs, q, a) → T.cutL (T.putL ks k (.node c us)) k = some (rs, .node c us, a)
  | [], k, rs, q, a, c, us, h => by rw [T.cutL] at h; cases h
  | t :: ts, k, rs, q, a, c, us, h => by
    rw [T.cutL] at h
    rw [T.putL]
    by_cases hk : k < t.nodes
    · obtain ⟨r', p', a', hs⟩ := cutAt_some t k hk
      rw [hs] at h
      simp only [Option.some.injEq, Prod.mk.injEq] at h
      obtain ⟨rfl, _, rfl⟩ := h
      rw [if_pos hk, T.cutL, cut_after t k r' p' a' c us hs]
    · have hn := cutAt_none t k (by omega)
      rw [hn] at h
      simp only at h
      split at h
      · cases h
      · rename_i rs' p' a' he
        cases h
        rw [if_neg hk, T.cutL, hn]
        simp only
        rw [cutL_after ts (k - t.nodes) _ _ _ c us he]
end

theorem put_same {t r q : T} {k a : Nat} (hw : t.wf) (h : t.cutAt k = some (r, q, a)) : t.putAt k q = t := by
  rw [← graft_put (u := q) hw h]
  have ha := (cut_size t k r q a h).2.2.2
  refine cut_fill t k r q a hw h _ (fun j hj => ?_)
  rw [List.getElem?_eq_getElem (by rw [oneIn_length]; exact hj), oneIn_get]
  by_cases e : a = j
  · rw [if_pos e, if_pos e.symm]
  · rw [if_neg e, if_neg (fun h => e h.symm)]

theorem put_put {t r q u : T} {k a : Nat} {c : UInt8} {us : List T} (hw : t.wf) (hu : (T.node c us).wf) (h : t.cutAt k = some (r, q, a)) : (t.putAt k (.node c us)).putAt k u = t.putAt k u := by
  have h2 := cut_after t k r q a c us h
  rw [← graft_put (u := u) (putAt_wf t k _ hw hu) h2, ← graft_put (u := u) hw h]

theorem cut_lt {t r q : T} {k a : Nat} (h : t.cutAt k = some (r, q, a)) : k < t.nodes := by
  by_cases hk : k < t.nodes
  · exact hk
  · rw [cutAt_none t k (by omega)] at h; cases h

theorem putV_is (p s y : ByteArray) (v : Int) : ∃ (x : ByteArray) (b : Bool), putV p s v y = .tuple #[.string x, .bool b] := by
  unfold putV
  split
  · split
    · unfold putW
      split
      · exact ⟨_, _, rfl⟩
      · obtain ⟨x, b, h, _⟩ := done_tld (by assumption)
        exact ⟨x, b, h⟩
    · exact ⟨_, _, rfl⟩
  · exact ⟨_, _, rfl⟩

/-- All that FnPut asks, where something was put. -/
theorem put_told {p s y o : ByteArray} {v : Int} (h : putV p s v y = .tuple #[.string o, .bool true]) :
    o.size ≤ 100000 ∧ leavesOf (parse o.data.toList) = leavesOf (parse s.data.toList) ∧ (y = ⟨#[42]⟩ ∨ (y ≠ ⟨#[42]⟩ ∧ putV y o v p = .tuple #[.string s, .bool true])) := by
  unfold putV at h
  split at h
  · rename_i x t b hx ht hb
    split at h
    · rename_i hc
      obtain ⟨hl, hv0, hvn⟩ := hc
      obtain ⟨k, hk⟩ : ∃ k : Nat, (k : Int) = v := ⟨v.toNat, by omega⟩
      subst hk
      rw [Int.toNat_natCast] at h
      obtain ⟨hpx, c, ks, ex⟩ := patOf_some hx
      obtain ⟨hwx, hxt, hlx, hnx⟩ := parse_some hpx
      obtain ⟨hwt, hst, hlt, hnt⟩ := parse_some ht
      obtain ⟨hwb, hyb, hlb, hnb⟩ := parse_some hb
      unfold putW putOf at h
      cases hcut : t.cutAt k with
      | none => rw [hcut] at h; simp at h
      | some w =>
        obtain ⟨r, q, a⟩ := w
        rw [hcut] at h
        simp only at h
        cases hpq : x.partsOf q with
        | none => rw [hpq] at h; simp at h
        | some ts =>
          rw [hpq] at h
          simp only at h
          obtain ⟨g1, g2, g3, g4, g5, g6, g7⟩ := put_all hwx hwt hwb hl ⟨hlb, hnb⟩ ⟨hlt, hnt⟩ hcut hpq
          obtain ⟨q1, q2⟩ := fill_parts x q ts [] hpq
          rw [List.append_nil] at q2
          have hqw := (cutAt_wf t k r q a hwt hcut).2.1
          have hfc := (fill_count b ts (by omega)).1
          rw [List.take_of_length_le (by omega)] at hfc
          have hql := (partsOf_ok x q ts hwx hqw hpq).2.2.1
          have hps := (put_size (u := b.fill ts) hwt hcut).1
          unfold doneV at h
          split at h
          · rename_i hsm
            simp only [Value.tuple.injEq, Array.mk.injEq, List.cons.injEq, Value.string.injEq, and_true] at h
            subst h
            have hpo : parse (⟨(t.putAt k (b.fill ts)).text.toArray⟩ : ByteArray).data.toList = some (t.putAt k (b.fill ts)) := parse_text g4 hsm.1 hsm.2
            refine ⟨by change (t.putAt k (b.fill ts)).text.toArray.size ≤ 100000; simpa using g7, ?_, ?_⟩
            · rw [hpo, ht]
              simp only [leavesOf]
              omega
            · by_cases hy : y = ⟨#[42]⟩
              · exact .inl hy
              · right
                refine ⟨hy, ?_⟩
                cases hbb : b with
                | leaf =>
                  exfalso
                  apply hy
                  rw [hbb] at hyb
                  obtain ⟨⟨l⟩⟩ := y
                  simp only [T.text] at hyb
                  rw [hyb]
                | node d js =>
                  rw [← hbb]
                  have hbf : ∃ e us, b.fill ts = .node e us := by rw [hbb, T.fill]; exact ⟨_, _, rfl⟩
                  obtain ⟨e, us, hbe⟩ := hbf
                  have hpb : patOf y = some b := by rw [hbb]; exact patOf_node (by rw [← hbb]; exact hb)
                  have hca := cut_after t k r q a e us hcut
                  rw [← hbe] at hca
                  have hnn := cut_lt hca
                  rw [putV_some hpb hpo hpx, if_pos ⟨hl.symm, by omega, by omega⟩, Int.toNat_natCast]
                  have hpf := partsOf_fill b ts (by omega)
                  rw [List.take_of_length_le (by omega)] at hpf
                  rw [putOf_yes hca hpf, q2]
                  have e1 : (t.putAt k (b.fill ts)).putAt k q = t := by
                    rw [hbe, put_put hwt (by rw [← hbe]; exact g3) hcut, put_same hwt hcut]
                  rw [e1, doneV_yes (by simp [small, hlt, hnt])]
                  obtain ⟨⟨l⟩⟩ := s
                  simp only at hst
                  rw [hst]
          · simp at h
    · simp at h
  · simp at h

end Go.Proofs.Ytfjodghnheliaaa
end
