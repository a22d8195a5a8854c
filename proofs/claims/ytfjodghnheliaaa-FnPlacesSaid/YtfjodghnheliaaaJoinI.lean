/- The program joins a pattern at a node of another one. -/
import Derived.Test.YtfjodghnheliaaaUniI
import Derived.Test.YtfjodghnheliaaaPatI
import Derived.Test.YtfjodghnheliaaaGraftS
import Derived.Test.YtfjodghnheliaaaCutI
import Derived.Test.YtfjodghnheliaaaKTextI
import Derived.Deep.RegionHeld3
namespace Go.Proofs.Ytfjodghnheliaaa
open Go.RowKit

theorem joinOf_out {p q : T} {k : Nat} (h : q.cutAt k = none) : joinOf p q k = none := by rw [joinOf, h]
theorem joinOf_no {p q r s : T} {k a : Nat} (h : q.cutAt k = some (r, s, a)) (hu : p.unite s = none) : joinOf p q k = none := by
  rw [joinOf, h]; simp only; rw [hu]
theorem joinOf_yes {p q r s u : T} {k a : Nat} (h : q.cutAt k = some (r, s, a)) (hu : p.unite s = some u) : joinOf p q k = if small (q.putAt k u) = true then some (q.putAt k u) else none := by
  rw [joinOf, h]; simp only; rw [hu]

theorem join_size {p q r s u : T} {k a : Nat} (hqw : q.wf) (hpw : p.wf) (hp : p.leaves ≤ 12 ∧ p.nodes ≤ 16) (hq : q.leaves ≤ 12 ∧ q.nodes ≤ 16) (h : q.cutAt k = some (r, s, a)) (hu : p.unite s = some u) :
    r.wf ∧ s.wf ∧ u.wf ∧ a < r.leaves ∧ r.leaves ≤ 1000 ∧ (q.putAt k u).wf ∧ (q.putAt k u).leaves ≤ 1000 ∧ (q.putAt k u).nodes ≤ 1000 := by
  obtain ⟨h1, h2, _, _⟩ := cutAt_wf q k r s a hqw h
  obtain ⟨h3, h4, h5, h6⟩ := cut_size q k r s a h
  obtain ⟨h7, h8, h9⟩ := unite_ok p s u hpw h2 hu
  have h10 := put_size (u := u) hqw h
  have h11 := leaves_pos s h2
  exact ⟨h1, h2, h7, h6, by omega, putAt_wf q k u hqw h7, by omega, by omega⟩

set_option maxRecDepth 100000 in
set_option maxHeartbeats 1000000 in
theorem joinAt_any (p q : T) (k : Nat) (typ : TypeId) (ap : Addr) (tyq : TypeId) (aq : Addr) (w : World) (P : Nat → Prop) (hpw : p.wf) (hqw : q.wf) (hp : p.leaves ≤ 12 ∧ p.nodes ≤ 16) (hq : q.leaves ≤ 12 ∧ q.nodes ≤ 16) (hk : k < 9223372036854775808) (hP : ∀ b, P b → b < w.heap.size)
    (hrp : RepI w P p typ ap) (hrq : RepI w P q tyq aq) :
    Calls Try.prog 40 #[.iface typ (.pointer (some ap)), .iface tyq (.pointer (some aq)), .int .i64 k] w (UnI P (joinOf p q k) w) := by
  have HC := Lib.hid (cutTree_any _ q tyq aq k w P (Nat.le_refl _) hqw (by omega) (by omega) hk hP hrq)
  have HRP := Lib.hid hrp
  have HP := Lib.hid hP
  clear hrp hrq hP
  go_enter Try.func40, Try.ntmps40
  go_wp2_with fail
  refine HC.out.mono ?_
  rintro e w1 ⟨hB1, ⟨hno, rfl⟩ | ⟨r, s, a, ty1, a1, ty2, a2, hyes, rfl, hr1, hr2⟩⟩
  · have HN := Lib.hid (joinOf_out (p := p) hno)
    clear hno
    go_wp2_with fail
    go_ret2
    exact ⟨hB1, .inl ⟨HN.out, rfl⟩⟩
  · have HY := Lib.hid hyes
    obtain ⟨hw1, hw2, _, _⟩ := cutAt_wf q k r s a hqw hyes
    have HU := Lib.hid (overlay_any _ p s typ ap ty2 a2 w1 P (Nat.le_refl _) hpw hw2 (fun b hb => by have := HP.out b hb; have := hB1.size; omega) (HRP.out.below hpw hB1) hr2)
    have HR1 := Lib.hid hr1
    have HB1 := Lib.hid hB1
    clear hyes hr1 hr2 hB1
    go_wp2_with fail
    refine HU.out.mono ?_
    rintro e w2 ⟨hB2, ⟨hno, rfl⟩ | ⟨u, ty3, a3, hun, rfl, hr3⟩⟩
    · have HN := Lib.hid (joinOf_no HY.out hno)
      have HB2 := Lib.hid (below_step HB1.out hB2)
      clear hno
      go_wp2_with fail
      go_ret2
      exact ⟨HB2.out, .inl ⟨HN.out, rfl⟩⟩
    · obtain ⟨_, _, huw, ha, hrl, hjw, hjl, hjn⟩ := join_size hqw hpw hp hq HY.out hun
      have HB2 := Lib.hid (below_step HB1.out hB2)
      have HJ := Lib.hid (joinOf_yes HY.out hun)
      have HG := Lib.hid (graftAt_any r a u ty1 a1 ty3 a3 w2 (fun b => (P b ∨ w.heap.size ≤ b) ∧ b < w2.heap.size) hw1 huw (by omega) ha (fun b h => h.2)
        ((HR1.out.below hw1 hB2).keep (fun _ _ _ h => h) (fun b h hlt => ⟨h, hlt⟩) hw1)
        (hr3.keep (fun _ _ _ h => h) (fun b h hlt => ⟨by rcases h with h | h; exact .inl h; exact .inr (by have := HB1.out.size; omega), hlt⟩) huw))
      have HPUT := Lib.hid (graft_put (u := u) hqw HY.out)
      rw [HPUT.out] at HG
      obtain ⟨t, ht⟩ : ∃ t, t = q.putAt k u := ⟨_, rfl⟩
      rw [← ht] at HG hjw hjl hjn HJ
      clear hun hr3 hB2 ht
      go_wp2_with fail
      refine HG.out.mono ?_
      rintro e w3 ⟨hB3, ty4, a4, rfl, hr4⟩
      have HB3 := Lib.hid (below_step HB2.out hB3)
      have HBD := Lib.hid (isBounded_any t ty4 a4 w3 _ hjw (by omega) (by omega) hr4)
      have HR4 := Lib.hid (hr4.keep (P' := fun b => P b ∨ w.heap.size ≤ b) (fun _ _ _ h => h) (fun b h _ => by
        rcases h with h | h
        · exact h.1
        · exact .inr (by have := HB2.out.size; omega)) hjw)
      obtain ⟨b, hb⟩ : ∃ b, b = small t := ⟨_, rfl⟩
      rw [← hb] at HBD HJ
      clear hr4 hB3 hb
      go_wp2_with fail
      refine HBD.out.mono ?_
      rintro e w4 ⟨rfl, rfl⟩
      cases b with
      | false =>
        go_wp2_with fail
        go_ret2
        exact ⟨HB3.out, .inl ⟨by rw [HJ.out]; rfl, rfl⟩⟩
      | true =>
        go_wp2_with fail
        go_ret2
        exact ⟨HB3.out, .inr ⟨t, ty4, a4, by rw [HJ.out]; rfl, rfl, HR4.out⟩⟩

/-- What PatternJoin answers. -/
def joinV (p q : ByteArray) (v : Int) : Option T :=
  match patOf p, patOf q with
  | some x, some y => if 0 ≤ v ∧ v ≤ (y.nodes : Int) - 1 then joinOf x y v.toNat else none
  | _, _ => none
def textV : Option T → Value
  | none => .tuple #[.string ⟨#[]⟩, .bool false]
  | some t => .tuple #[.string ⟨t.text.toArray⟩, .bool true]

theorem joinI_none1 {p q : ByteArray} {v : Int} (h : patsOf [p, q] = none) : joinV p q v = none := by
  rw [joinV]
  rw [patsOf, if_neg (by simp), patAll] at h
  simp only [List.foldl_cons, List.foldl_nil, patStep] at h
  cases h1 : patOf p with
  | none => rfl
  | some x =>
    rw [h1] at h
    cases h2 : patOf q with
    | none => rfl
    | some y => rw [h2] at h; cases h
theorem joinI_pair {p q : ByteArray} {ts : List T} (h : patsOf [p, q] = some ts) : ∃ x y, ts = [x, y] ∧ patOf p = some x ∧ patOf q = some y := by
  rw [patsOf, if_neg (by simp), patAll] at h
  simp only [List.foldl_cons, List.foldl_nil, patStep] at h
  cases h1 : patOf p with
  | none => rw [h1] at h; cases h
  | some x =>
    rw [h1] at h
    cases h2 : patOf q with
    | none => rw [h2] at h; cases h
    | some y =>
      rw [h2] at h
      simp only [List.nil_append, List.cons_append, Option.some.injEq] at h
      exact ⟨x, y, h.symm, rfl, rfl⟩

theorem joinOf_far {p q : T} {k : Nat} (h : q.nodes ≤ k) : joinOf p q k = none := joinOf_out (cutAt_none q k h)

theorem joinOf_okI {p q t : T} {k : Nat} (hqw : q.wf) (hpw : p.wf) (hp : p.leaves ≤ 12 ∧ p.nodes ≤ 16) (hq : q.leaves ≤ 12 ∧ q.nodes ≤ 16) (h : joinOf p q k = some t) : t.wf ∧ t.text.length ≤ 100000 := by
  rw [joinOf] at h
  split at h
  · cases h
  · next r s a hc =>
    split at h
    · cases h
    · next u hu =>
      split at h
      · next hs =>
        cases h
        have h1 := small_iff.1 hs
        have h2 := text_length (q.putAt k u)
        exact ⟨(join_size hqw hpw hp hq hc hu).2.2.2.2.2.1, by omega⟩
      · cases h

end Go.Proofs.Ytfjodghnheliaaa
