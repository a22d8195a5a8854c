/- Two trees and a leaf are drawn; the promises on grafting. -/
import Derived.Test.YtfflgjidapclkaaKPLaws25
import Derived.Test.YtfflgjidapclkaaKPatM
namespace Go.Proofs.Ytfflgjidapclkaa
open Go.RowKit

/-- Two texts and a number between are drawn. -/
def GrDr (w : World) (e : Ending) (w' : World) : Prop := Below w.heap.size w w' ∧ ∃ (s : ByteArray) (k : Int) (s2 : ByteArray), e = .returned (.tuple #[.string s, .int .i64 k, .string s2]) ∧ s.size ≤ 2000 ∧ -1 ≤ k ∧ k ≤ 1000000 ∧ s2.size ≤ 2000

theorem leavesOf_le (s : List UInt8) : -1 ≤ leavesOf (parse s) ∧ leavesOf (parse s) ≤ 12 := by
  cases h : parse s with
  | none => simp [leavesOf]
  | some t => obtain ⟨_, _, hl, _⟩ := parse_some h; simp only [leavesOf]; omega

set_option maxHeartbeats 2000000 in
theorem dGraft_any (bs : List Nat) (a : Option Addr) (cap : Nat) (w : World) (hn : bs.length ≤ 9223372036854775807) (hcap : bs.length ≤ cap) (h8 : ∀ z ∈ bs, z ≤ 255) (hl : LiesB w a bs) :
    Calls Try.prog 8 #[.slice a bs.length cap] w (GrDr w) := by
  have HO := Lib.hid (l6Open_any bs a cap w hn hcap h8 hl)
  clear h8 hl
  go_enter Try.func8, Try.ntmps8
  go_wp2_with fail
  refine HO.out.mono ?_
  rintro e w1 ⟨rfl, hb1, hr1⟩
  have HX := Lib.hid (l91Text_any w.heap.size a cap (bs.take 2000) 3 0 w1 (by decide) (by decide) hr1)
  have HB1 := Lib.hid hb1
  clear hb1 hr1
  go_wp2_with fail
  refine HX.out.mono ?_
  rintro e w2 ⟨hg2, s, q, rfl, hsz, hr2, hq⟩
  have hq2 : q ≤ 28 := hq
  have HB2 := Lib.hid (below_over HB1.out hg2 (fun r e => by cases e; exact Nat.le_refl _))
  obtain ⟨z, hz⟩ : ∃ z, z = leavesOf (parse s.data.toList) := ⟨_, rfl⟩
  have hzb := leavesOf_le s.data.toList
  have HN := Lib.hid (sLeaves_any s w2 (by omega))
  rw [← hz] at HN hzb
  have HR2 := Lib.hid hr2
  clear hg2 hr2 hz hq
  go_wp2_with fail
  refine HN.out.mono ?_
  rintro e w3 ⟨rfl, hb3⟩
  have HB3 := Lib.hid (below_step HB2.out hb3)
  have HR3 := Lib.hid (HR2.out.grown (grownBy_below (grownBy_refl _ none) hb3) (fun _ e => by cases e))
  clear hb3
  obtain ⟨M, hM, hM2, hMz⟩ : ∃ M : Nat, 1 ≤ M ∧ M ≤ 16 ∧ ((1 < z ∧ z = (M : Int)) ∨ (z ≤ 1 ∧ M = 1)) := by
    by_cases h : 1 < z
    · exact ⟨z.toNat, by omega, by omega, .inl ⟨h, by omega⟩⟩
    · exact ⟨1, by omega, by omega, .inr ⟨by omega, rfl⟩⟩
  have HP := Lib.hid (pick_any w.heap.size a cap q M (bs.take 2000) w3 HR3.out (by omega) hM (by omega))
  rcases hMz with ⟨h1, rfl⟩ | ⟨h1, rfl⟩
  all_goals
    go_wp2_with fail
    refine HP.out.mono ?_
    rintro e w4 ⟨⟨k1, hk1, rfl⟩, hg4, hs4, hr4⟩
    have HB4 := Lib.hid (below_over HB3.out hg4 (fun r e => by cases e; exact Nat.le_refl _))
    have HQ := Lib.hid (pick_any w.heap.size a cap (q + 1) 20 (bs.take 2000) w4 hr4 (by omega) (by omega) (by omega))
    clear hg4 hs4 hr4
    go_wp2_with fail
    refine HQ.out.mono ?_
    rintro e w5 ⟨⟨k2, hk2, rfl⟩, hg5, hs5, hr5⟩
    have HB5 := Lib.hid (below_over HB4.out hg5 (fun r e => by cases e; exact Nat.le_refl _))
    have HX2 := Lib.hid (l91Text_any w.heap.size a cap (bs.take 2000) 2 (q + 1 + 1) w5 (by decide) (by omega) hr5)
    clear hg5 hs5 hr5
    go_wp2_with fail
    refine HX2.out.mono ?_
    rintro e w6 ⟨hg6, s2, q6, rfl, hsz2, hr6, hq6⟩
    have HB6 := Lib.hid (below_over HB5.out hg6 (fun r e => by cases e; exact Nat.le_refl _))
    clear hg6 hr6 hq6
    go_wp2_with fail
    refine bodyPost_ret (v := .tuple #[_, _, _]) (by simp [results, Try.results8, go_sem]; exact ⟨rfl, rfl, rfl⟩) rfl ?_
    exact ⟨HB6.out, s, _, s2, rfl, hsz, by omega, by omega, hsz2⟩

theorem graftV_shape (z : Option T) : ∃ (y : ByteArray) (b : Bool), graftV z = .tuple #[.string y, .bool b] := by
  cases z with
  | none => exact ⟨_, _, rfl⟩
  | some x => exact doneV_shape x

theorem doneV_big {x : T} (h : ¬ (x.leaves ≤ 12 ∧ x.nodes ≤ 16)) : doneV x = .tuple #[.string ⟨#[]⟩, .bool false] := by rw [doneV, if_neg h]

theorem inner_vals {a b c : List UInt8} {t u v x : T} {k j : Nat} (ht : parse a = some t) (hu : parse b = some u) (hc : parse c = some v) (hk : k < t.leaves) (hx : x = t.fill (oneIn t.leaves k u)) (hxp : parse x.text = some x) (hj : j < u.leaves) :
    ∃ (x1 : ByteArray) (q1 : Bool) (i1 : ByteArray) (r1 : Bool) (y1 : ByteArray) (t1 : Bool), graftV (graftOf x.text ((k : Int) + j) c) = .tuple #[.string x1, .bool q1] ∧ graftV (graftOf b j c) = .tuple #[.string i1, .bool r1] ∧
      graftV (graftOf a k i1.data.toList) = .tuple #[.string y1, .bool t1] ∧ i1.size ≤ 100000 ∧ ((q1 = true ∧ r1 = true ∧ t1 = true ∧ y1 = x1) ∨ q1 = false ∨ (q1 = true ∧ r1 = false)) := by
  obtain ⟨hvw, _, _, _⟩ := parse_some hc
  obtain ⟨huw, _, _, _⟩ := parse_some hu
  have hL := (graft_count (t := t) (u := u) hk).1
  rw [← hx] at hL
  have e1 : graftOf x.text ((k : Int) + j) c = some (x.fill (oneIn x.leaves (k + j) v)) := by
    have := graftOf_in (k := k + j) hxp hc (by omega)
    rw [← this]; rfl
  have hin := graft_inner (t := t) (u := u) (v := v) huw hk hj
  rw [← hx] at hin
  rw [e1, hin, graftOf_in hu hc hj]
  by_cases hI : (u.fill (oneIn u.leaves j v)).leaves ≤ 12 ∧ (u.fill (oneIn u.leaves j v)).nodes ≤ 16
  · have hIp := parse_text (fill_wf u _ huw (oneIn_wf hvw)) hI.1 hI.2
    have hIs : (u.fill (oneIn u.leaves j v)).text.length ≤ 100000 := by have := text_length (u.fill (oneIn u.leaves j v)); omega
    obtain ⟨y, b1, hy⟩ := graftV_shape (some (t.fill (oneIn t.leaves k (u.fill (oneIn u.leaves j v)))))
    refine ⟨y, b1, ⟨(u.fill (oneIn u.leaves j v)).text.toArray⟩, true, y, b1, hy, done_small hI.1 hI.2, ?_, by change (List.toArray _).size ≤ 100000; simpa using hIs, ?_⟩
    · rw [show (⟨(u.fill (oneIn u.leaves j v)).text.toArray⟩ : ByteArray).data.toList = (u.fill (oneIn u.leaves j v)).text from rfl, graftOf_in ht hIp hk]
      exact hy
    · cases b1
      · exact .inr (.inl rfl)
      · exact .inl ⟨rfl, rfl, rfl, rfl⟩
  · obtain ⟨y, b1, hy⟩ := graftV_shape (some (t.fill (oneIn t.leaves k (u.fill (oneIn u.leaves j v)))))
    obtain ⟨y2, b2, hy2⟩ := graftV_shape (graftOf a k (⟨#[]⟩ : ByteArray).data.toList)
    refine ⟨y, b1, ⟨#[]⟩, false, y2, b2, hy, doneV_big hI, hy2, by change 0 ≤ _; omega, ?_⟩
    cases b1
    · exact .inr (.inl rfl)
    · exact .inr (.inr ⟨rfl, rfl⟩)

theorem beside_vals {a b c : List UInt8} {t u v x : T} {k j : Nat} (ht : parse a = some t) (hu : parse b = some u) (hc : parse c = some v) (hkj : k < j) (hj : j < t.leaves) (hx : x = t.fill (oneIn t.leaves k u)) (hxp : parse x.text = some x) :
    ∃ (x1 : ByteArray) (q1 : Bool) (i1 : ByteArray) (r1 : Bool) (y1 : ByteArray) (t1 : Bool), graftV (graftOf x.text ((j : Int) + u.leaves - 1) c) = .tuple #[.string x1, .bool q1] ∧ graftV (graftOf a j c) = .tuple #[.string i1, .bool r1] ∧
      graftV (graftOf i1.data.toList k b) = .tuple #[.string y1, .bool t1] ∧ i1.size ≤ 100000 ∧ ((q1 = true ∧ r1 = true ∧ t1 = true ∧ y1 = x1) ∨ q1 = false ∨ (q1 = true ∧ r1 = false)) := by
  obtain ⟨hvw, _, _, _⟩ := parse_some hc
  obtain ⟨huw, _, _, _⟩ := parse_some hu
  obtain ⟨htw, _, _, _⟩ := parse_some ht
  have hL := (graft_count (t := t) (k := k) (u := u) (by omega)).1
  have hM := (graft_count (t := t) (u := v) hj).1
  rw [← hx] at hL
  have hul := leaves_pos u huw
  have hvl := leaves_pos v hvw
  have e1 : graftOf x.text ((j : Int) + u.leaves - 1) c = some (x.fill (oneIn x.leaves (j + u.leaves - 1) v)) := by
    have := graftOf_in (k := j + u.leaves - 1) hxp hc (by omega)
    rw [← this]; congr 1; omega
  have hin := graft_beside (t := t) (u := u) (v := v) huw hvw hkj hj
  rw [← hx] at hin
  rw [e1, hin, graftOf_in ht hc hj]
  by_cases hI : (t.fill (oneIn t.leaves j v)).leaves ≤ 12 ∧ (t.fill (oneIn t.leaves j v)).nodes ≤ 16
  · have hIp := parse_text (fill_wf t _ htw (oneIn_wf hvw)) hI.1 hI.2
    have hIs : (t.fill (oneIn t.leaves j v)).text.length ≤ 100000 := by have := text_length (t.fill (oneIn t.leaves j v)); omega
    obtain ⟨y, b1, hy⟩ := graftV_shape (some ((t.fill (oneIn t.leaves j v)).fill (oneIn (t.fill (oneIn t.leaves j v)).leaves k u)))
    refine ⟨y, b1, ⟨(t.fill (oneIn t.leaves j v)).text.toArray⟩, true, y, b1, hy, done_small hI.1 hI.2, ?_, by change (List.toArray _).size ≤ 100000; simpa using hIs, ?_⟩
    · rw [show (⟨(t.fill (oneIn t.leaves j v)).text.toArray⟩ : ByteArray).data.toList = (t.fill (oneIn t.leaves j v)).text from rfl, graftOf_in hIp hu (by omega)]
      exact hy
    · cases b1
      · exact .inr (.inl rfl)
      · exact .inl ⟨rfl, rfl, rfl, rfl⟩
  · obtain ⟨y, b1, hy⟩ := graftV_shape (some ((t.fill (oneIn t.leaves j v)).fill (oneIn (t.fill (oneIn t.leaves j v)).leaves k u)))
    obtain ⟨y2, b2, hy2⟩ := graftV_shape (graftOf (⟨#[]⟩ : ByteArray).data.toList k b)
    refine ⟨y, b1, ⟨#[]⟩, false, y2, b2, hy, doneV_big hI, hy2, by change 0 ≤ _; omega, ?_⟩
    cases b1
    · exact .inr (.inl rfl)
    · exact .inr (.inr ⟨rfl, rfl⟩)

set_option maxRecDepth 100000 in
set_option maxHeartbeats 4000000 in
theorem pGraft_any (bs : List Nat) (a : Option Addr) (cap : Nat) (w : World) (hl : LiesB w a bs) (h8 : ∀ z ∈ bs, z ≤ 255) (hn : bs.length ≤ 9223372036854775807) (hcap : bs.length ≤ cap) :
    Calls Try.prog 3 #[.slice a bs.length cap] w (Ans (.bool true) w) := by
  by_cases h : bs.length ≤ 1048576
  · have HD := Lib.hid (dGraft_any bs a cap w hn hcap h8 hl)
    clear h8 hl
    go_enter Try.func3, Try.ntmps3
    go_wp2_with fail
    refine HD.out.mono ?_
    rintro e w1 ⟨hB1, s, k, s2, rfl, hs, hk1, hk2, hs2⟩
    have HB1 := Lib.hid hB1
    clear hB1
    rcases graft_cases s.data.toList s2.data.toList k with hp | ⟨t, u, x, kk, ht, hu, rfl, hkk, hx, hxp, hp⟩
    · have HI : Hid (∀ w, Calls Try.prog 9 #[.string s, .int .i64 k, .string s2] w (Ans (.tuple #[.string ⟨#[]⟩, .bool false]) w)) := Lib.hid (fun w => by have := iGraft_any s k s2 w (by omega) (by omega); rw [hp] at this; exact this)
      have HS : Hid (∀ w, Calls Try.prog 10 #[.string s, .int .i64 k, .string s2] w (Ans (.tuple #[.string ⟨#[]⟩, .bool false]) w)) := Lib.hid (fun w => by have := sGraft_any s k s2 w (by omega) (by omega); rw [hp] at this; exact this)
      clear hp
      go_wp2_with fail
      refine (HI.out w1).mono ?_
      rintro e w2 ⟨rfl, hB2⟩
      have HB2 := Lib.hid (below_step HB1.out hB2)
      clear hB2
      go_wp2_with fail
      refine (HS.out w2).mono ?_
      rintro e w3 ⟨rfl, hB3⟩
      have HB3 := Lib.hid (below_step HB2.out hB3)
      clear hB3
      go_wp2_with fail
      go_ret
      exact ⟨rfl, HB3.out⟩
    · obtain ⟨o, ho⟩ : ∃ o : ByteArray, o = ⟨x.text.toArray⟩ := ⟨_, rfl⟩
      have HI : Hid (∀ w, Calls Try.prog 9 #[.string s, .int .i64 kk, .string s2] w (Ans (.tuple #[.string o, .bool true]) w)) := Lib.hid (fun w => by have := iGraft_any s kk s2 w (by omega) (by omega); rw [hp] at this; rw [ho]; exact this)
      have HS : Hid (∀ w, Calls Try.prog 10 #[.string s, .int .i64 kk, .string s2] w (Ans (.tuple #[.string o, .bool true]) w)) := Lib.hid (fun w => by have := sGraft_any s kk s2 w (by omega) (by omega); rw [hp] at this; rw [ho]; exact this)
      have hod : o.data.toList = x.text := by rw [ho]
      obtain ⟨htw, _, htl, htn⟩ := parse_some ht
      obtain ⟨huw, _, hul, hun⟩ := parse_some hu
      obtain ⟨hxw, _, hxl, hxn⟩ := parse_some hxp
      have hos : o.size ≤ 100000 := by
        have z3 := text_length x
        rw [ho]; change x.text.toArray.size ≤ 100000; simp; omega
      obtain ⟨z1, z2⟩ := graft_count (u := u) hkk
      rw [← hx] at z1 z2
      have HL1 : Hid (∀ w, Calls Try.prog 11 #[.string o] w (Ans (.int .i64 (x.leaves : Int)) w)) := Lib.hid (fun w => by have := iLeaves_any o w (by omega); rw [hod, hxp] at this; exact this)
      have HL2 : Hid (∀ w, Calls Try.prog 11 #[.string s] w (Ans (.int .i64 (t.leaves : Int)) w)) := Lib.hid (fun w => by have := iLeaves_any s w (by omega); rw [ht] at this; exact this)
      have HL3 : Hid (∀ w, Calls Try.prog 11 #[.string s2] w (Ans (.int .i64 (u.leaves : Int)) w)) := Lib.hid (fun w => by have := iLeaves_any s2 w (by omega); rw [hu] at this; exact this)
      have HN1 : Hid (∀ w, Calls Try.prog 12 #[.string o] w (Ans (.int .i64 (x.nodes : Int)) w)) := Lib.hid (fun w => by have := iNodes_any o w (by omega); rw [hod, hxp] at this; exact this)
      have HN2 : Hid (∀ w, Calls Try.prog 12 #[.string s] w (Ans (.int .i64 (t.nodes : Int)) w)) := Lib.hid (fun w => by have := iNodes_any s w (by omega); rw [ht] at this; exact this)
      have HN3 : Hid (∀ w, Calls Try.prog 12 #[.string s2] w (Ans (.int .i64 (u.nodes : Int)) w)) := Lib.hid (fun w => by have := iNodes_any s2 w (by omega); rw [hu] at this; exact this)
      have g1 : ((x.leaves : Int) == (t.leaves : Int) + (u.leaves : Int) - 1) = true := by simp only [beq_iff_eq]; omega
      have g2 : ((x.nodes : Int) == (t.nodes : Int) + (u.nodes : Int)) = true := by simp only [beq_iff_eq]; omega
      clear hp ht hu hx hxp ho hod z1 z2 htw huw hxw
      go_wp2_with fail
      refine (HI.out w1).mono ?_
      rintro e w2 ⟨rfl, hB2⟩
      have HB2 := Lib.hid (below_step HB1.out hB2)
      clear hB2
      go_wp2_with fail
      refine (HS.out w2).mono ?_
      rintro e w3 ⟨rfl, hB3⟩
      have HB3 := Lib.hid (below_step HB2.out hB3)
      clear hB3
      go_wp2_with fail
      refine (HL1.out w3).mono ?_
      rintro e w4 ⟨rfl, hB4⟩
      have HB4 := Lib.hid (below_step HB3.out hB4)
      clear hB4
      go_wp2_with fail
      refine (HL2.out w4).mono ?_
      rintro e w5 ⟨rfl, hB5⟩
      have HB5 := Lib.hid (below_step HB4.out hB5)
      clear hB5
      go_wp2_with fail
      refine (HL3.out w5).mono ?_
      rintro e w6 ⟨rfl, hB6⟩
      have HB6 := Lib.hid (below_step HB5.out hB6)
      clear hB6
      go_wp2_with fail
      refine (HN1.out w6).mono ?_
      rintro e w7 ⟨rfl, hB7⟩
      have HB7 := Lib.hid (below_step HB6.out hB7)
      clear hB7
      go_wp2_with fail
      refine (HN2.out w7).mono ?_
      rintro e w8 ⟨rfl, hB8⟩
      have HB8 := Lib.hid (below_step HB7.out hB8)
      clear hB8
      go_wp2_with fail
      refine (HN3.out w8).mono ?_
      rintro e w9 ⟨rfl, hB9⟩
      have HB9 := Lib.hid (below_step HB8.out hB9)
      clear hB9
      go_wp2_with fail
      go_ret
      exact ⟨rfl, HB9.out⟩
  · go_enter Try.func3, Try.ntmps3
    go_wp2_with fail
    go_ret
    exact ⟨rfl, Below.refl _ _⟩

set_option maxRecDepth 100000 in
set_option maxHeartbeats 4000000 in
theorem pInner_any (bs : List Nat) (a : Option Addr) (cap : Nat) (w : World) (hl : LiesB w a bs) (h8 : ∀ z ∈ bs, z ≤ 255) (hn : bs.length ≤ 9223372036854775807) (hcap : bs.length ≤ cap) :
    Calls Try.prog 4 #[.slice a bs.length cap] w (Ans (.bool true) w) := by
  by_cases h : bs.length ≤ 1048576
  · have HD := Lib.hid (dGraft_any bs a cap w hn hcap h8 hl)
    clear h8 hl
    go_enter Try.func4, Try.ntmps4
    go_wp2_with fail
    refine HD.out.mono ?_
    rintro e w1 ⟨hB1, s, k, s2, rfl, hs, hk1, hk2, hs2⟩
    have HB1 := Lib.hid hB1
    clear hB1
    rcases graft_cases s.data.toList s2.data.toList k with hp | ⟨t, u, x, kk, ht, hu, rfl, hkk, hx, hxp, hp⟩
    · have HI : Hid (∀ w, Calls Try.prog 9 #[.string s, .int .i64 k, .string s2] w (Ans (.tuple #[.string ⟨#[]⟩, .bool false]) w)) := Lib.hid (fun w => by have := iGraft_any s k s2 w (by omega) (by omega); rw [hp] at this; exact this)
      have HS : Hid (∀ w, Calls Try.prog 10 #[.string s, .int .i64 k, .string s2] w (Ans (.tuple #[.string ⟨#[]⟩, .bool false]) w)) := Lib.hid (fun w => by have := sGraft_any s k s2 w (by omega) (by omega); rw [hp] at this; exact this)
      clear hp
      go_wp2_with fail
      refine (HI.out w1).mono ?_
      rintro e w2 ⟨rfl, hB2⟩
      have HB2 := Lib.hid (below_step HB1.out hB2)
      clear hB2
      go_wp2_with fail
      refine (HS.out w2).mono ?_
      rintro e w3 ⟨rfl, hB3⟩
      have HB3 := Lib.hid (below_step HB2.out hB3)
      clear hB3
      go_wp2_with fail
      go_ret
      exact ⟨rfl, HB3.out⟩
    · obtain ⟨o, ho⟩ : ∃ o : ByteArray, o = ⟨x.text.toArray⟩ := ⟨_, rfl⟩
      have HI : Hid (∀ w, Calls Try.prog 9 #[.string s, .int .i64 kk, .string s2] w (Ans (.tuple #[.string o, .bool true]) w)) := Lib.hid (fun w => by have := iGraft_any s kk s2 w (by omega) (by omega); rw [hp] at this; rw [ho]; exact this)
      have HS : Hid (∀ w, Calls Try.prog 10 #[.string s, .int .i64 kk, .string s2] w (Ans (.tuple #[.string o, .bool true]) w)) := Lib.hid (fun w => by have := sGraft_any s kk s2 w (by omega) (by omega); rw [hp] at this; rw [ho]; exact this)
      have hod : o.data.toList = x.text := by rw [ho]
      obtain ⟨htw, _, htl, htn⟩ := parse_some ht
      obtain ⟨huw, _, hul, hun⟩ := parse_some hu
      obtain ⟨hxw, _, hxl, hxn⟩ := parse_some hxp
      have hos : o.size ≤ 100000 := by
        have z3 := text_length x
        rw [ho]; change x.text.toArray.size ≤ 100000; simp; omega
      obtain ⟨c, hc⟩ : ∃ c : ByteArray, c = ⟨u.mirror.text.toArray⟩ := ⟨_, rfl⟩
      have hmir := mirror_size u
      have hcp : parse c.data.toList = some u.mirror := by
        rw [hc]; exact parse_text (mirror_wf _ huw) (by omega) (by omega)
      have hcs : c.size ≤ 100000 := by rw [hc]; change u.mirror.text.toArray.size ≤ 100000; simpa using mirror_len hul hun
      have HM : Hid (∀ w, Calls Try.prog 13 #[.string s2] w (Ans (.tuple #[.string c, .bool true]) w)) := Lib.hid (fun w => by
        have := iMirror_any s2 w (by omega)
        rw [hu] at this
        simp only [mirrorOf, Option.isSome_some] at this
        rw [← hc] at this
        exact this)
      obtain ⟨n, hn'⟩ : ∃ n, n = u.leaves := ⟨_, rfl⟩
      have HL : Hid (∀ w, Calls Try.prog 11 #[.string s2] w (Ans (.int .i64 (n : Int)) w)) := Lib.hid (fun w => by have := iLeaves_any s2 w (by omega); rw [hu] at this; rw [hn']; exact this)
      have HV : Hid (∀ j : Nat, j < n → ∃ (x1 : ByteArray) (q1 : Bool) (i1 : ByteArray) (r1 : Bool) (y1 : ByteArray) (t1 : Bool),
          (∀ w, Calls Try.prog 9 #[.string o, .int .i64 ((kk : Int) + j), .string c] w (Ans (.tuple #[.string x1, .bool q1]) w)) ∧ (∀ w, Calls Try.prog 9 #[.string s2, .int .i64 (j : Int), .string c] w (Ans (.tuple #[.string i1, .bool r1]) w)) ∧ (∀ w, Calls Try.prog 9 #[.string s, .int .i64 (kk : Int), .string i1] w (Ans (.tuple #[.string y1, .bool t1]) w)) ∧
          ((q1 = true ∧ r1 = true ∧ t1 = true ∧ y1 = x1) ∨ q1 = false ∨ (q1 = true ∧ r1 = false))) := Lib.hid (fun j hj => by
        obtain ⟨x1, q1, i1, r1, y1, t1, v1, v2, v3, v4, v5⟩ := inner_vals ht hu hcp hkk hx hxp (j := j) (by omega)
        refine ⟨x1, q1, i1, r1, y1, t1, fun w => ?_, fun w => ?_, fun w => ?_, v5⟩
        · have := iGraft_any o ((kk : Int) + j) c w (by omega) (by omega)
          rw [hod, v1] at this; exact this
        · have := iGraft_any s2 j c w (by omega) (by omega)
          rw [v2] at this; exact this
        · have := iGraft_any s kk i1 w (by omega) (by omega)
          rw [v3] at this; exact this)
      have hn12 : n ≤ 12 := by omega
      have hk12 : kk ≤ 12 := by omega
      clear hp ht hu hx hxp ho hod htw huw hxw hc hcp hmir hn' hkk htl htn hul hun hxl hxn
      go_wp2_with fail
      refine (HI.out w1).mono ?_
      rintro e w2 ⟨rfl, hB2⟩
      have HB2 := Lib.hid (below_step HB1.out hB2)
      clear hB2
      go_wp2_with fail
      refine (HS.out w2).mono ?_
      rintro e w3 ⟨rfl, hB3⟩
      have HB3 := Lib.hid (below_step HB2.out hB3)
      clear hB3
      go_wp2_with fail
      refine (HM.out w3).mono ?_
      rintro e w4 ⟨rfl, hB4⟩
      have HB4 := Lib.hid (below_step HB3.out hB4)
      clear hB4
      go_wp2_with fail
      go_loopw [12, 13, 14, 15, 16, 17, 18] (fun i _ _ _ _ _ _ wr => ∃ j : Nat, j ≤ n ∧ i = .int .i64 j ∧ Below w.heap.size w wr) (fun i _ _ _ _ _ _ _ => n - (intOf i).toNat)
      case atStart => exact ⟨0, Nat.zero_le _, rfl, HB4.out⟩
      case round =>
        obtain ⟨j, hj, rfl, hB⟩ := hrel
        have HBr := Lib.hid hB
        clear hB
        by_cases hlt : j < n
        · obtain ⟨x1, q1, i1, r1, y1, t1, v1, v2, v3, v5⟩ := HV.out j hlt
          have V1 := Lib.hid v1
          have V2 := Lib.hid v2
          have V3 := Lib.hid v3
          clear v1 v2 v3
          rcases v5 with ⟨rfl, rfl, rfl, rfl⟩ | rfl | ⟨rfl, rfl⟩
          all_goals
            go_wp2_with fail
            refine (HL.out wr).mono ?_
            rintro e w5 ⟨rfl, hB5⟩
            have HB5 := Lib.hid (below_step HBr.out hB5)
            clear hB5
            go_wp2_with fail
            refine (V1.out w5).mono ?_
            rintro e w6 ⟨rfl, hB6⟩
            have HB6 := Lib.hid (below_step HB5.out hB6)
            clear hB6
            go_wp2_with fail
            refine (V2.out w6).mono ?_
            rintro e w7 ⟨rfl, hB7⟩
            have HB7 := Lib.hid (below_step HB6.out hB7)
            clear hB7
            go_wp2_with fail
            refine (V3.out w7).mono ?_
            rintro e w8 ⟨rfl, hB8⟩
            have HB8 := Lib.hid (below_step HB7.out hB8)
            clear hB8
            go_wp2_with fail
            exact ⟨⟨j + 1, by omega, by go_num, HB8.out⟩, by simp [intOf]; omega⟩
        · go_wp2_with fail
          refine (HL.out wr).mono ?_
          rintro e w5 ⟨rfl, hB5⟩
          have HB5 := Lib.hid (below_step HBr.out hB5)
          clear hB5
          go_wp2_with fail
          go_ret
          exact ⟨rfl, HB5.out⟩
  · go_enter Try.func4, Try.ntmps4
    go_wp2_with fail
    go_ret
    exact ⟨rfl, Below.refl _ _⟩

set_option maxRecDepth 100000 in
set_option maxHeartbeats 4000000 in
theorem pBeside_any (bs : List Nat) (a : Option Addr) (cap : Nat) (w : World) (hl : LiesB w a bs) (h8 : ∀ z ∈ bs, z ≤ 255) (hn : bs.length ≤ 9223372036854775807) (hcap : bs.length ≤ cap) :
    Calls Try.prog 5 #[.slice a bs.length cap] w (Ans (.bool true) w) := by
  by_cases h : bs.length ≤ 1048576
  · have HD := Lib.hid (dGraft_any bs a cap w hn hcap h8 hl)
    clear h8 hl
    go_enter Try.func5, Try.ntmps5
    go_wp2_with fail
    refine HD.out.mono ?_
    rintro e w1 ⟨hB1, s, k, s2, rfl, hs, hk1, hk2, hs2⟩
    have HB1 := Lib.hid hB1
    clear hB1
    rcases graft_cases s.data.toList s2.data.toList k with hp | ⟨t, u, x, kk, ht, hu, rfl, hkk, hx, hxp, hp⟩
    · have HI : Hid (∀ w, Calls Try.prog 9 #[.string s, .int .i64 k, .string s2] w (Ans (.tuple #[.string ⟨#[]⟩, .bool false]) w)) := Lib.hid (fun w => by have := iGraft_any s k s2 w (by omega) (by omega); rw [hp] at this; exact this)
      have HS : Hid (∀ w, Calls Try.prog 10 #[.string s, .int .i64 k, .string s2] w (Ans (.tuple #[.string ⟨#[]⟩, .bool false]) w)) := Lib.hid (fun w => by have := sGraft_any s k s2 w (by omega) (by omega); rw [hp] at this; exact this)
      clear hp
      go_wp2_with fail
      refine (HI.out w1).mono ?_
      rintro e w2 ⟨rfl, hB2⟩
      have HB2 := Lib.hid (below_step HB1.out hB2)
      clear hB2
      go_wp2_with fail
      refine (HS.out w2).mono ?_
      rintro e w3 ⟨rfl, hB3⟩
      have HB3 := Lib.hid (below_step HB2.out hB3)
      clear hB3
      go_wp2_with fail
      go_ret
      exact ⟨rfl, HB3.out⟩
    · obtain ⟨o, ho⟩ : ∃ o : ByteArray, o = ⟨x.text.toArray⟩ := ⟨_, rfl⟩
      have HI : Hid (∀ w, Calls Try.prog 9 #[.string s, .int .i64 kk, .string s2] w (Ans (.tuple #[.string o, .bool true]) w)) := Lib.hid (fun w => by have := iGraft_any s kk s2 w (by omega) (by omega); rw [hp] at this; rw [ho]; exact this)
      have HS : Hid (∀ w, Calls Try.prog 10 #[.string s, .int .i64 kk, .string s2] w (Ans (.tuple #[.string o, .bool true]) w)) := Lib.hid (fun w => by have := sGraft_any s kk s2 w (by omega) (by omega); rw [hp] at this; rw [ho]; exact this)
      have hod : o.data.toList = x.text := by rw [ho]
      obtain ⟨htw, _, htl, htn⟩ := parse_some ht
      obtain ⟨huw, _, hul, hun⟩ := parse_some hu
      obtain ⟨hxw, _, hxl, hxn⟩ := parse_some hxp
      have hos : o.size ≤ 100000 := by
        have z3 := text_length x
        rw [ho]; change x.text.toArray.size ≤ 100000; simp; omega
      obtain ⟨c, hc⟩ : ∃ c : ByteArray, c = ⟨u.mirror.text.toArray⟩ := ⟨_, rfl⟩
      have hmir := mirror_size u
      have hcp : parse c.data.toList = some u.mirror := by
        rw [hc]; exact parse_text (mirror_wf _ huw) (by omega) (by omega)
      have hcs : c.size ≤ 100000 := by rw [hc]; change u.mirror.text.toArray.size ≤ 100000; simpa using mirror_len hul hun
      have HM : Hid (∀ w, Calls Try.prog 13 #[.string s2] w (Ans (.tuple #[.string c, .bool true]) w)) := Lib.hid (fun w => by
        have := iMirror_any s2 w (by omega)
        rw [hu] at this
        simp only [mirrorOf, Option.isSome_some] at this
        rw [← hc] at this
        exact this)
      obtain ⟨n, hn'⟩ : ∃ n, n = u.leaves := ⟨_, rfl⟩
      have HL : Hid (∀ w, Calls Try.prog 11 #[.string s2] w (Ans (.int .i64 (n : Int)) w)) := Lib.hid (fun w => by have := iLeaves_any s2 w (by omega); rw [hu] at this; rw [hn']; exact this)
      obtain ⟨m, hm'⟩ : ∃ m, m = t.leaves := ⟨_, rfl⟩
      have HLA : Hid (∀ w, Calls Try.prog 11 #[.string s] w (Ans (.int .i64 (m : Int)) w)) := Lib.hid (fun w => by have := iLeaves_any s w (by omega); rw [ht] at this; rw [hm']; exact this)
      have HV : Hid (∀ j : Nat, kk < j → j < m → ∃ (x1 : ByteArray) (q1 : Bool) (i1 : ByteArray) (r1 : Bool) (y1 : ByteArray) (t1 : Bool),
          (∀ w, Calls Try.prog 9 #[.string o, .int .i64 ((j : Int) + n - 1), .string c] w (Ans (.tuple #[.string x1, .bool q1]) w)) ∧ (∀ w, Calls Try.prog 9 #[.string s, .int .i64 (j : Int), .string c] w (Ans (.tuple #[.string i1, .bool r1]) w)) ∧ (∀ w, Calls Try.prog 9 #[.string i1, .int .i64 (kk : Int), .string s2] w (Ans (.tuple #[.string y1, .bool t1]) w)) ∧
          ((q1 = true ∧ r1 = true ∧ t1 = true ∧ y1 = x1) ∨ q1 = false ∨ (q1 = true ∧ r1 = false))) := Lib.hid (fun j hkj hj => by
        obtain ⟨x1, q1, i1, r1, y1, t1, v1, v2, v3, v4, v5⟩ := beside_vals ht hu hcp hkj (by omega) hx hxp
        refine ⟨x1, q1, i1, r1, y1, t1, fun w => ?_, fun w => ?_, fun w => ?_, v5⟩
        · have := iGraft_any o ((j : Int) + n - 1) c w (by omega) (by omega)
          rw [hod, hn', v1] at this; rw [hn']; exact this
        · have := iGraft_any s j c w (by omega) (by omega)
          rw [v2] at this; exact this
        · have := iGraft_any i1 kk s2 w (by omega) (by omega)
          rw [v3] at this; exact this)
      have hn12 : n ≤ 12 := by omega
      have hm12 : m ≤ 12 := by omega
      have hkm : kk < m := by omega
      clear hp ht hu hx hxp ho hod htw huw hxw hc hcp hmir hn' hm' hkk htl htn hul hun hxl hxn
      go_wp2_with fail
      refine (HI.out w1).mono ?_
      rintro e w2 ⟨rfl, hB2⟩
      have HB2 := Lib.hid (below_step HB1.out hB2)
      clear hB2
      go_wp2_with fail
      refine (HS.out w2).mono ?_
      rintro e w3 ⟨rfl, hB3⟩
      have HB3 := Lib.hid (below_step HB2.out hB3)
      clear hB3
      go_wp2_with fail
      refine (HM.out w3).mono ?_
      rintro e w4 ⟨rfl, hB4⟩
      have HB4 := Lib.hid (below_step HB3.out hB4)
      clear hB4
      go_wp2_with fail
      refine (HL.out w4).mono ?_
      rintro e w5 ⟨rfl, hB5⟩
      have HB5 := Lib.hid (below_step HB4.out hB5)
      clear hB5
      go_wp2_with fail
      go_loopw [13, 14, 15, 16, 17, 18, 19] (fun i _ _ _ _ _ _ wr => ∃ j : Nat, kk < j ∧ j ≤ m ∧ i = .int .i64 j ∧ Below w.heap.size w wr) (fun i _ _ _ _ _ _ _ => m - (intOf i).toNat)
      case atStart => exact ⟨kk + 1, by omega, by omega, rfl, HB5.out⟩
      case round =>
        obtain ⟨j, hkj, hj, rfl, hB⟩ := hrel
        have HBr := Lib.hid hB
        clear hB
        by_cases hlt : j < m
        · obtain ⟨x1, q1, i1, r1, y1, t1, v1, v2, v3, v5⟩ := HV.out j hkj hlt
          have V1 := Lib.hid v1
          have V2 := Lib.hid v2
          have V3 := Lib.hid v3
          clear v1 v2 v3
          rcases v5 with ⟨rfl, rfl, rfl, rfl⟩ | rfl | ⟨rfl, rfl⟩
          all_goals
            go_wp2_with fail
            refine (HLA.out wr).mono ?_
            rintro e w5 ⟨rfl, hB5⟩
            have HB5 := Lib.hid (below_step HBr.out hB5)
            clear hB5
            go_wp2_with fail
            refine (V1.out w5).mono ?_
            rintro e w6 ⟨rfl, hB6⟩
            have HB6 := Lib.hid (below_step HB5.out hB6)
            clear hB6
            go_wp2_with fail
            refine (V2.out w6).mono ?_
            rintro e w7 ⟨rfl, hB7⟩
            have HB7 := Lib.hid (below_step HB6.out hB7)
            clear hB7
            go_wp2_with fail
            refine (V3.out w7).mono ?_
            rintro e w8 ⟨rfl, hB8⟩
            have HB8 := Lib.hid (below_step HB7.out hB8)
            clear hB8
            go_wp2_with fail
            exact ⟨⟨j + 1, by omega, by omega, by go_num, HB8.out⟩, by simp [intOf]; omega⟩
        · go_wp2_with fail
          refine (HLA.out wr).mono ?_
          rintro e w5 ⟨rfl, hB5⟩
          have HB5 := Lib.hid (below_step HBr.out hB5)
          clear hB5
          go_wp2_with fail
          go_ret
          exact ⟨rfl, HB5.out⟩
  · go_enter Try.func5, Try.ntmps5
    go_wp2_with fail
    go_ret
    exact ⟨rfl, Below.refl _ _⟩
end Go.Proofs.Ytfflgjidapclkaa
