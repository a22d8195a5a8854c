/- A tree and a node are drawn; the promises on parts and cuts. -/
import Derived.Test.YtfflgjidapclkaaKGraftD
import Derived.Test.YtfflgjidapclkaaKPatM
namespace Go.Proofs.Ytfflgjidapclkaa
open Go.RowKit

/-- A text and a number are drawn. -/
def AtDr (w : World) (e : Ending) (w' : World) : Prop := Below w.heap.size w w' ∧ ∃ (s : ByteArray) (k : Int), e = .returned (.tuple #[.string s, .int .i64 k]) ∧ s.size ≤ 2000 ∧ -1 ≤ k ∧ k ≤ 1000000

theorem nodesOf_le (s : List UInt8) : -1 ≤ nodesOf (parse s) ∧ nodesOf (parse s) ≤ 16 := by
  cases h : parse s with
  | none => simp [nodesOf]
  | some t => obtain ⟨_, _, _, hn⟩ := parse_some h; simp only [nodesOf]; omega

set_option maxHeartbeats 2000000 in
theorem l91At_any (bs : List Nat) (a : Option Addr) (cap : Nat) (w : World) (hn : bs.length ≤ 9223372036854775807) (hcap : bs.length ≤ cap) (h8 : ∀ z ∈ bs, z ≤ 255) (hl : LiesB w a bs) :
    Calls Try.prog 37 #[.slice a bs.length cap] w (AtDr w) := by
  have HO := Lib.hid (l6Open_any bs a cap w hn hcap h8 hl)
  clear h8 hl
  go_enter Try.func37, Try.ntmps37
  go_wp2_with fail
  refine HO.out.mono ?_
  rintro e w1 ⟨rfl, hb1, hr1⟩
  have HX := Lib.hid (l91Text_any w.heap.size a cap (bs.take 2000) 3 0 w1 (by decide) (by decide) hr1)
  have HB1 := Lib.hid hb1
  clear hb1 hr1
  go_wp2_with fail
  refine HX.out.mono ?_
  rintro e w2 ⟨hg2, s, q, rfl, hsz, hr2, hq⟩
  have hq2 : q ≤ 28 := hq
  have HB2 := Lib.hid (below_over HB1.out hg2 (fun r e => by cases e; exact Nat.le_refl _))
  obtain ⟨z, hz⟩ : ∃ z, z = nodesOf (parse s.data.toList) := ⟨_, rfl⟩
  have hzb := nodesOf_le s.data.toList
  have HN := Lib.hid (sNodes_any s w2 (by omega))
  rw [← hz] at HN hzb
  have HR2 := Lib.hid hr2
  clear hg2 hr2 hz hq
  go_wp2_with fail
  refine HN.out.mono ?_
  rintro e w3 ⟨rfl, hb3⟩
  have HB3 := Lib.hid (below_step HB2.out hb3)
  have HR3 := Lib.hid (HR2.out.grown (grownBy_below (grownBy_refl _ none) hb3) (fun _ e => by cases e))
  clear hb3
  obtain ⟨M, hM, hM2, hMz⟩ : ∃ M : Nat, 1 ≤ M ∧ M ≤ 16 ∧ ((1 < z ∧ z = (M : Int)) ∨ (z ≤ 1 ∧ M = 1)) := by
    by_cases h : 1 < z
    · exact ⟨z.toNat, by omega, by omega, .inl ⟨h, by omega⟩⟩
    · exact ⟨1, by omega, by omega, .inr ⟨by omega, rfl⟩⟩
  have HP := Lib.hid (pick_any w.heap.size a cap q M (bs.take 2000) w3 HR3.out (by omega) hM (by omega))
  rcases hMz with ⟨h1, rfl⟩ | ⟨h1, rfl⟩
  all_goals
    go_wp2_with fail
    refine HP.out.mono ?_
    rintro e w4 ⟨⟨k1, hk1, rfl⟩, hg4, hs4, hr4⟩
    have HB4 := Lib.hid (below_over HB3.out hg4 (fun r e => by cases e; exact Nat.le_refl _))
    have HQ := Lib.hid (pick_any w.heap.size a cap (q + 1) 20 (bs.take 2000) w4 hr4 (by omega) (by omega) (by omega))
    clear hg4 hs4 hr4
    go_wp2_with fail
    refine HQ.out.mono ?_
    rintro e w5 ⟨⟨k2, hk2, rfl⟩, hg5, hs5, hr5⟩
    have HB5 := Lib.hid (below_over HB4.out hg5 (fun r e => by cases e; exact Nat.le_refl _))
    clear hg5 hs5 hr5
    go_wp2_with fail
    go_ret2
    exact ⟨HB5.out, s, _, rfl, hsz, by omega, by omega⟩

theorem dCut_any (bs : List Nat) (a : Option Addr) (cap : Nat) (w : World) (hn : bs.length ≤ 9223372036854775807) (hcap : bs.length ≤ cap) (h8 : ∀ z ∈ bs, z ≤ 255) (hl : LiesB w a bs) :
    Calls Try.prog 17 #[.slice a bs.length cap] w (AtDr w) := by
  have HO := Lib.hid (l91At_any bs a cap w hn hcap h8 hl)
  clear h8 hl
  go_enter Try.func17, Try.ntmps17
  go_wp2_with fail
  refine HO.out.mono ?_
  rintro e w1 ⟨hb1, s, k, rfl, hs, hk1, hk2⟩
  have HB1 := Lib.hid hb1
  clear hb1
  go_wp2_with fail
  go_ret2
  exact ⟨HB1.out, s, k, rfl, hs, hk1, hk2⟩

set_option maxRecDepth 100000 in
set_option maxHeartbeats 2000000 in
theorem pCut_any (bs : List Nat) (a : Option Addr) (cap : Nat) (w : World) (hl : LiesB w a bs) (h8 : ∀ z ∈ bs, z ≤ 255) (hn : bs.length ≤ 9223372036854775807) (hcap : bs.length ≤ cap) :
    Calls Try.prog 7 #[.slice a bs.length cap] w (Ans (.bool true) w) := by
  by_cases h : bs.length ≤ 1048576
  · have HD := Lib.hid (dCut_any bs a cap w hn hcap h8 hl)
    clear h8 hl
    go_enter Try.func7, Try.ntmps7
    go_wp2_with fail
    refine HD.out.mono ?_
    rintro e w1 ⟨hB1, s, k, rfl, hs, hk1, hk2⟩
    have HB1 := Lib.hid hB1
    clear hB1
    cases hp : cutOf s.data.toList k with
    | none =>
      have HI : Hid (∀ w, Calls Try.prog 18 #[.string s, .int .i64 k] w (Ans (.tuple #[.string ⟨#[]⟩, .string ⟨#[]⟩, .int .i64 0, .bool false]) w)) := Lib.hid (fun w => by have := iCut_any s k w (by omega) (by omega); rw [hp] at this; exact this)
      have HS : Hid (∀ w, Calls Try.prog 19 #[.string s, .int .i64 k] w (Ans (.tuple #[.string ⟨#[]⟩, .string ⟨#[]⟩, .int .i64 0, .bool false]) w)) := Lib.hid (fun w => by have := sCut_any s k w (by omega); rw [hp] at this; exact this)
      clear hp
      go_wp2_with fail
      refine (HI.out w1).mono ?_
      rintro e w2 ⟨rfl, hB2⟩
      have HB2 := Lib.hid (below_step HB1.out hB2)
      clear hB2
      go_wp2_with fail
      refine (HS.out w2).mono ?_
      rintro e w3 ⟨rfl, hB3⟩
      have HB3 := Lib.hid (below_step HB2.out hB3)
      clear hB3
      go_wp2_with fail
      go_ret
      exact ⟨rfl, HB3.out⟩
    | some x =>
      obtain ⟨r, p, j⟩ := x
      obtain ⟨t, ht, hr, hpp, hg, hp1, hpn, hpl, hp0, hk0⟩ := cut_parts hp
      obtain ⟨o, ho⟩ : ∃ o : ByteArray, o = ⟨p.text.toArray⟩ := ⟨_, rfl⟩
      obtain ⟨y, hy⟩ : ∃ y : ByteArray, y = ⟨r.text.toArray⟩ := ⟨_, rfl⟩
      have HI : Hid (∀ w, Calls Try.prog 18 #[.string s, .int .i64 k] w (Ans (.tuple #[.string y, .string o, .int .i64 (j : Int), .bool true]) w)) := Lib.hid (fun w => by have := iCut_any s k w (by omega) (by omega); rw [hp] at this; rw [ho, hy]; exact this)
      have HS : Hid (∀ w, Calls Try.prog 19 #[.string s, .int .i64 k] w (Ans (.tuple #[.string y, .string o, .int .i64 (j : Int), .bool true]) w)) := Lib.hid (fun w => by have := sCut_any s k w (by omega); rw [hp] at this; rw [ho, hy]; exact this)
      have HP : Hid (∀ w, Calls Try.prog 20 #[.string s, .int .i64 k] w (Ans (.tuple #[.string o, .bool true]) w)) := Lib.hid (fun w => by have := iPart_any s k w (by omega) (by omega); rw [hp] at this; rw [ho]; exact this)
      have hos : o.size ≤ 100000 := by
        obtain ⟨_, _, z1, z2⟩ := parse_some hpp
        have z3 := text_length p
        rw [ho]; change p.text.toArray.size ≤ 100000; simp; omega
      have hys : y.size ≤ 100000 := by
        obtain ⟨_, _, z1, z2⟩ := parse_some hr
        have z3 := text_length r
        rw [hy]; change r.text.toArray.size ≤ 100000; simp; omega
      obtain ⟨_, _, htl, htn⟩ := parse_some ht
      have HG : Hid (∀ w, Calls Try.prog 9 #[.string y, .int .i64 (j : Int), .string o] w (Ans (.tuple #[.string s, .bool true]) w)) := Lib.hid (fun w => by
        have := iGraft_any y j o w (by omega) (by omega)
        rw [show y.data.toList = r.text from by rw [hy], show o.data.toList = p.text from by rw [ho], hg, graftV, done_small htl htn, ← text_of ht] at this
        exact this)
      clear hp ht hr hpp hg hp0 ho hy
      go_wp2_with fail
      refine (HI.out w1).mono ?_
      rintro e w2 ⟨rfl, hB2⟩
      have HB2 := Lib.hid (below_step HB1.out hB2)
      clear hB2
      go_wp2_with fail
      refine (HS.out w2).mono ?_
      rintro e w3 ⟨rfl, hB3⟩
      have HB3 := Lib.hid (below_step HB2.out hB3)
      clear hB3
      go_wp2_with fail
      refine (HG.out w3).mono ?_
      rintro e w4 ⟨rfl, hB4⟩
      have HB4 := Lib.hid (below_step HB3.out hB4)
      clear hB4
      go_wp2_with fail
      refine (HP.out w4).mono ?_
      rintro e w5 ⟨rfl, hB5⟩
      have HB5 := Lib.hid (below_step HB4.out hB5)
      clear hB5
      go_wp2_with fail
      go_ret
      exact ⟨rfl, HB5.out⟩
  · go_enter Try.func7, Try.ntmps7
    go_wp2_with fail
    go_ret
    exact ⟨rfl, Below.refl _ _⟩
end Go.Proofs.Ytfflgjidapclkaa
