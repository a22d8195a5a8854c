/- The draws of one tree, and the promises on it: leaves, mirrors. -/
import Derived.Test.YtaahjegdcahccaaPLaws1
namespace Go.Proofs.Ytaahjegdcahccaa
open Go.RowKit

mutual
theorem mirror_dep : ∀ (t : T), t.mirror.dep = t.dep
  | .leaf => by simp [T.mirror]
  | .node c ks => by rw [T.mirror, T.dep, T.dep, mirrorL_dep ks]
theorem mirrorL_dep : ∀ (ks : List T), T.depL (T.mirrorL ks) = T.depL ks
  | [] => by simp [T.mirrorL]
  | k :: ks => by
    rw [T.mirrorL, depL_append, mirrorL_dep ks]
    simp only [T.depL, mirror_dep k, Nat.max_zero]
    omega
end

set_option maxHeartbeats 1000000 in
theorem dLeaves_any (bs : List Nat) (a : Option Addr) (cap : Nat) (w : World) (hn : bs.length ≤ 9223372036854775807) (hcap : bs.length ≤ cap) (h8 : ∀ z ∈ bs, z ≤ 255) (hl : LiesB w a bs) :
    Calls Try.prog 70 #[.slice a bs.length cap] w (DrPost w) := by
  have HO := Lib.hid (l6Open_any bs a cap w hn hcap h8 hl)
  clear h8 hl
  go_enter Try.func70, Try.ntmps70
  go_wp2_with fail
  refine HO.out.mono ?_
  rintro e w1 ⟨rfl, hb1, hr1⟩
  have HX := Lib.hid (l91Text_any w.heap.size a cap (bs.take 2000) 3 0 w1 (by decide) (by decide) hr1)
  have HB1 := Lib.hid hb1
  clear hb1 hr1
  go_wp2_with fail
  refine HX.out.mono ?_
  rintro e w2 ⟨hg2, s, q, rfl, hsz, hr2, hq⟩
  have HB2 := Lib.hid (below_over HB1.out hg2 (fun r e => by cases e; exact Nat.le_refl _))
  clear hg2 hr2
  go_wp2_with fail
  go_ret
  exact ⟨HB2.out, s, rfl, hsz⟩

set_option maxHeartbeats 1000000 in
theorem dNodes_any (bs : List Nat) (a : Option Addr) (cap : Nat) (w : World) (hn : bs.length ≤ 9223372036854775807) (hcap : bs.length ≤ cap) (h8 : ∀ z ∈ bs, z ≤ 255) (hl : LiesB w a bs) :
    Calls Try.prog 71 #[.slice a bs.length cap] w (DrPost w) := by
  have HO := Lib.hid (l6Open_any bs a cap w hn hcap h8 hl)
  clear h8 hl
  go_enter Try.func71, Try.ntmps71
  go_wp2_with fail
  refine HO.out.mono ?_
  rintro e w1 ⟨rfl, hb1, hr1⟩
  have HX := Lib.hid (l91Text_any w.heap.size a cap (bs.take 2000) 3 0 w1 (by decide) (by decide) hr1)
  have HB1 := Lib.hid hb1
  clear hb1 hr1
  go_wp2_with fail
  refine HX.out.mono ?_
  rintro e w2 ⟨hg2, s, q, rfl, hsz, hr2, hq⟩
  have HB2 := Lib.hid (below_over HB1.out hg2 (fun r e => by cases e; exact Nat.le_refl _))
  clear hg2 hr2
  go_wp2_with fail
  go_ret
  exact ⟨HB2.out, s, rfl, hsz⟩

set_option maxHeartbeats 1000000 in
theorem dMirror_any (bs : List Nat) (a : Option Addr) (cap : Nat) (w : World) (hn : bs.length ≤ 9223372036854775807) (hcap : bs.length ≤ cap) (h8 : ∀ z ∈ bs, z ≤ 255) (hl : LiesB w a bs) :
    Calls Try.prog 74 #[.slice a bs.length cap] w (DrPost w) := by
  have HO := Lib.hid (l6Open_any bs a cap w hn hcap h8 hl)
  clear h8 hl
  go_enter Try.func74, Try.ntmps74
  go_wp2_with fail
  refine HO.out.mono ?_
  rintro e w1 ⟨rfl, hb1, hr1⟩
  have HX := Lib.hid (l91Text_any w.heap.size a cap (bs.take 2000) 3 0 w1 (by decide) (by decide) hr1)
  have HB1 := Lib.hid hb1
  clear hb1 hr1
  go_wp2_with fail
  refine HX.out.mono ?_
  rintro e w2 ⟨hg2, s, q, rfl, hsz, hr2, hq⟩
  have HB2 := Lib.hid (below_over HB1.out hg2 (fun r e => by cases e; exact Nat.le_refl _))
  clear hg2 hr2
  go_wp2_with fail
  go_ret
  exact ⟨HB2.out, s, rfl, hsz⟩

set_option maxHeartbeats 1000000 in
theorem dDepth_any (bs : List Nat) (a : Option Addr) (cap : Nat) (w : World) (hn : bs.length ≤ 9223372036854775807) (hcap : bs.length ≤ cap) (h8 : ∀ z ∈ bs, z ≤ 255) (hl : LiesB w a bs) :
    Calls Try.prog 75 #[.slice a bs.length cap] w (DrPost w) := by
  have HO := Lib.hid (l6Open_any bs a cap w hn hcap h8 hl)
  clear h8 hl
  go_enter Try.func75, Try.ntmps75
  go_wp2_with fail
  refine HO.out.mono ?_
  rintro e w1 ⟨rfl, hb1, hr1⟩
  have HX := Lib.hid (l91Text_any w.heap.size a cap (bs.take 2000) 3 0 w1 (by decide) (by decide) hr1)
  have HB1 := Lib.hid hb1
  clear hb1 hr1
  go_wp2_with fail
  refine HX.out.mono ?_
  rintro e w2 ⟨hg2, s, q, rfl, hsz, hr2, hq⟩
  have HB2 := Lib.hid (below_over HB1.out hg2 (fun r e => by cases e; exact Nat.le_refl _))
  clear hg2 hr2
  go_wp2_with fail
  go_ret
  exact ⟨HB2.out, s, rfl, hsz⟩

set_option maxHeartbeats 1000000 in
theorem dPaths_any (bs : List Nat) (a : Option Addr) (cap : Nat) (w : World) (hn : bs.length ≤ 9223372036854775807) (hcap : bs.length ≤ cap) (h8 : ∀ z ∈ bs, z ≤ 255) (hl : LiesB w a bs) :
    Calls Try.prog 78 #[.slice a bs.length cap] w (DrPost w) := by
  have HO := Lib.hid (l6Open_any bs a cap w hn hcap h8 hl)
  clear h8 hl
  go_enter Try.func78, Try.ntmps78
  go_wp2_with fail
  refine HO.out.mono ?_
  rintro e w1 ⟨rfl, hb1, hr1⟩
  have HX := Lib.hid (l91Text_any w.heap.size a cap (bs.take 2000) 3 0 w1 (by decide) (by decide) hr1)
  have HB1 := Lib.hid hb1
  clear hb1 hr1
  go_wp2_with fail
  refine HX.out.mono ?_
  rintro e w2 ⟨hg2, s, q, rfl, hsz, hr2, hq⟩
  have HB2 := Lib.hid (below_over HB1.out hg2 (fun r e => by cases e; exact Nat.le_refl _))
  clear hg2 hr2
  go_wp2_with fail
  go_ret
  exact ⟨HB2.out, s, rfl, hsz⟩

set_option maxRecDepth 100000 in
set_option maxHeartbeats 2000000 in
theorem pLeaves_any (bs : List Nat) (a : Option Addr) (cap : Nat) (w : World) (hl : LiesB w a bs) (h8 : ∀ z ∈ bs, z ≤ 255) (hn : bs.length ≤ 9223372036854775807) (hcap : bs.length ≤ cap) :
    Calls Try.prog 18 #[.slice a bs.length cap] w (Ans (.bool true) w) := by
  by_cases h : bs.length ≤ 1048576
  · have HD := Lib.hid (dLeaves_any bs a cap w hn hcap h8 hl)
    clear h8 hl
    go_enter Try.func18, Try.ntmps18
    go_wp2_with fail
    refine HD.out.mono ?_
    rintro e w1 ⟨hB1, s, rfl, hs⟩
    have HB1 := Lib.hid hB1
    clear hB1
    cases hp : parse s.data.toList with
    | none =>
      have HI : Hid (∀ w, Calls Try.prog 32 #[.string s] w (Ans (.int .i64 (-1)) w)) := Lib.hid (fun w => by have := iLeaves_any s w (by omega); rw [hp] at this; exact this)
      have HS : Hid (∀ w, Calls Try.prog 31 #[.string s] w (Ans (.int .i64 (-1)) w)) := Lib.hid (fun w => by have := sLeaves_any s w (by omega); rw [hp] at this; exact this)
      clear hp
      go_wp2_with fail
      refine (HI.out w1).mono ?_
      rintro e w2 ⟨rfl, hB2⟩
      have HB2 := Lib.hid (below_step HB1.out hB2)
      clear hB2
      go_wp2_with fail
      refine (HS.out w2).mono ?_
      rintro e w3 ⟨rfl, hB3⟩
      have HB3 := Lib.hid (below_step HB2.out hB3)
      clear hB3
      go_wp2_with fail
      go_ret
      exact ⟨rfl, HB3.out⟩
    | some t =>
      obtain ⟨hw, _, hlv, hnd⟩ := parse_some hp
      have hlp := leaves_pos t hw
      obtain ⟨n, hn'⟩ : ∃ n, n = t.leaves := ⟨_, rfl⟩
      have HI : Hid (∀ w, Calls Try.prog 32 #[.string s] w (Ans (.int .i64 (n : Int)) w)) := Lib.hid (fun w => by have := iLeaves_any s w (by omega); rw [hp] at this; rw [hn']; exact this)
      have HS : Hid (∀ w, Calls Try.prog 31 #[.string s] w (Ans (.int .i64 (n : Int)) w)) := Lib.hid (fun w => by have := sLeaves_any s w (by omega); rw [hp] at this; rw [hn']; exact this)
      have HP : Hid (∀ w, Calls Try.prog 51 #[.string s] w (fun e w' => Below w.heap.size w w' ∧ ∃ a cap, e = .returned (.tuple #[.slice a n cap, .bool true]))) := Lib.hid (fun w => by
        have := iPaths_any s w (by omega)
        rw [hp] at this
        refine this.mono ?_
        rintro e w' ⟨hb, a, cap, rfl, _⟩
        exact ⟨hb, a, cap, by rw [hn', ← paths_length t []]; rfl⟩)
      rw [← hn'] at hlv hlp
      have g1 : decide ((n : Int) < 0) = false := decide_eq_false (by omega)
      have g2 : decide (1 ≤ (n : Int)) = true := decide_eq_true (by omega)
      have g3 : decide ((n : Int) ≤ 12) = true := decide_eq_true (by omega)
      clear hp hn' hw hnd
      go_wp2_with fail
      refine (HI.out w1).mono ?_
      rintro e w2 ⟨rfl, hB2⟩
      have HB2 := Lib.hid (below_step HB1.out hB2)
      clear hB2
      go_wp2_with fail
      refine (HS.out w2).mono ?_
      rintro e w3 ⟨rfl, hB3⟩
      have HB3 := Lib.hid (below_step HB2.out hB3)
      clear hB3
      go_wp2_with fail
      refine (HP.out w3).mono ?_
      rintro e w4 ⟨hB4, a4, c4, rfl⟩
      have HB4 := Lib.hid (below_step HB3.out hB4)
      clear hB4
      go_wp2_with fail
      go_ret
      exact ⟨rfl, HB4.out⟩
  · go_enter Try.func18, Try.ntmps18
    go_wp2_with fail
    go_ret
    exact ⟨rfl, Below.refl _ _⟩

set_option maxRecDepth 100000 in
set_option maxHeartbeats 2000000 in
theorem pMirror_any (bs : List Nat) (a : Option Addr) (cap : Nat) (w : World) (hl : LiesB w a bs) (h8 : ∀ z ∈ bs, z ≤ 255) (hn : bs.length ≤ 9223372036854775807) (hcap : bs.length ≤ cap) :
    Calls Try.prog 24 #[.slice a bs.length cap] w (Ans (.bool true) w) := by
  by_cases h : bs.length ≤ 1048576
  · have HD := Lib.hid (dMirror_any bs a cap w hn hcap h8 hl)
    clear h8 hl
    go_enter Try.func24, Try.ntmps24
    go_wp2_with fail
    refine HD.out.mono ?_
    rintro e w1 ⟨hB1, s, rfl, hs⟩
    have HB1 := Lib.hid hB1
    clear hB1
    obtain ⟨o, ho⟩ : ∃ o : ByteArray, o = ⟨(mirrorOf (parse s.data.toList)).toArray⟩ := ⟨_, rfl⟩
    obtain ⟨b, hb⟩ : ∃ b, b = (parse s.data.toList).isSome := ⟨_, rfl⟩
    have HI : Hid (∀ w, Calls Try.prog 43 #[.string s] w (Ans (.tuple #[.string o, .bool b]) w)) := Lib.hid (fun w => by rw [ho, hb]; exact iMirror_any s w (by omega))
    have HS : Hid (∀ w, Calls Try.prog 42 #[.string s] w (Ans (.tuple #[.string o, .bool b]) w)) := Lib.hid (fun w => by rw [ho, hb]; exact sMirror_any s w (by omega))
    have HO := Lib.hid ho
    have HV := Lib.hid hb
    clear ho hb
    cases b
    · go_wp2_with fail
      refine (HI.out w1).mono ?_
      rintro e w2 ⟨rfl, hB2⟩
      have HB2 := Lib.hid (below_step HB1.out hB2)
      clear hB2
      go_wp2_with fail
      refine (HS.out w2).mono ?_
      rintro e w3 ⟨rfl, hB3⟩
      have HB3 := Lib.hid (below_step HB2.out hB3)
      clear hB3
      go_wp2_with fail
      go_ret
      exact ⟨rfl, HB3.out⟩
    · obtain ⟨t, ht⟩ : ∃ t, parse s.data.toList = some t := Option.isSome_iff_exists.1 HV.out.symm
      obtain ⟨hw, _, hlv, hnd⟩ := parse_some ht
      have hmir := mirror_size t
      have hop : parse o.data.toList = some t.mirror := by
        rw [HO.out, ht]; exact parse_text (mirror_wf _ hw) (by omega) (by omega)
      have hso : s = ⟨t.text.toArray⟩ := text_of ht
      have hos : o.size ≤ 100000 := by rw [HO.out, ht]; change t.mirror.text.toArray.size ≤ 100000; simpa using mirror_len hlv hnd
      have HB : Hid (∀ w, Calls Try.prog 43 #[.string o] w (Ans (.tuple #[.string s, .bool true]) w)) := Lib.hid (fun w => by
        have := iMirror_any o w (by omega)
        rw [hop] at this
        simp only [mirrorOf, mirror_mirror, Option.isSome_some] at this
        rw [← hso] at this
        exact this)
      have HL1 : Hid (∀ w, Calls Try.prog 32 #[.string o] w (Ans (.int .i64 (t.leaves : Int)) w)) := Lib.hid (fun w => by have := iLeaves_any o w (by omega); rw [hop] at this; simp only [leavesOf, hmir.1] at this; exact this)
      have HL2 : Hid (∀ w, Calls Try.prog 32 #[.string s] w (Ans (.int .i64 (t.leaves : Int)) w)) := Lib.hid (fun w => by have := iLeaves_any s w (by omega); rw [ht] at this; exact this)
      have HN1 : Hid (∀ w, Calls Try.prog 34 #[.string o] w (Ans (.int .i64 (t.nodes : Int)) w)) := Lib.hid (fun w => by have := iNodes_any o w (by omega); rw [hop] at this; simp only [nodesOf, hmir.2] at this; exact this)
      have HN2 : Hid (∀ w, Calls Try.prog 34 #[.string s] w (Ans (.int .i64 (t.nodes : Int)) w)) := Lib.hid (fun w => by have := iNodes_any s w (by omega); rw [ht] at this; exact this)
      have HE1 : Hid (∀ w, Calls Try.prog 45 #[.string o] w (Ans (.int .i64 (t.dep : Int)) w)) := Lib.hid (fun w => by have := iDepth_any o w (by omega); rw [hop] at this; simp only [depOf, mirror_dep] at this; exact this)
      have HE2 : Hid (∀ w, Calls Try.prog 45 #[.string s] w (Ans (.int .i64 (t.dep : Int)) w)) := Lib.hid (fun w => by have := iDepth_any s w (by omega); rw [ht] at this; exact this)
      clear hop hso hos ht hmir hlv hnd hw
      go_wp2_with fail
      refine (HI.out w1).mono ?_
      rintro e w2 ⟨rfl, hB2⟩
      have HB2 := Lib.hid (below_step HB1.out hB2)
      clear hB2
      go_wp2_with fail
      refine (HS.out w2).mono ?_
      rintro e w3 ⟨rfl, hB3⟩
      have HB3 := Lib.hid (below_step HB2.out hB3)
      clear hB3
      go_wp2_with fail
      refine (HB.out w3).mono ?_
      rintro e w4 ⟨rfl, hB4⟩
      have HB4 := Lib.hid (below_step HB3.out hB4)
      clear hB4
      go_wp2_with fail
      refine (HL1.out w4).mono ?_
      rintro e w5 ⟨rfl, hB5⟩
      have HB5 := Lib.hid (below_step HB4.out hB5)
      clear hB5
      go_wp2_with fail
      refine (HL2.out w5).mono ?_
      rintro e w6 ⟨rfl, hB6⟩
      have HB6 := Lib.hid (below_step HB5.out hB6)
      clear hB6
      go_wp2_with fail
      refine (HN1.out w6).mono ?_
      rintro e w7 ⟨rfl, hB7⟩
      have HB7 := Lib.hid (below_step HB6.out hB7)
      clear hB7
      go_wp2_with fail
      refine (HN2.out w7).mono ?_
      rintro e w8 ⟨rfl, hB8⟩
      have HB8 := Lib.hid (below_step HB7.out hB8)
      clear hB8
      go_wp2_with fail
      refine (HE1.out w8).mono ?_
      rintro e w9 ⟨rfl, hB9⟩
      have HB9 := Lib.hid (below_step HB8.out hB9)
      clear hB9
      go_wp2_with fail
      refine (HE2.out w9).mono ?_
      rintro e w10 ⟨rfl, hB10⟩
      have HB10 := Lib.hid (below_step HB9.out hB10)
      clear hB10
      go_wp2_with fail
      go_ret
      exact ⟨rfl, HB10.out⟩
  · go_enter Try.func24, Try.ntmps24
    go_wp2_with fail
    go_ret
    exact ⟨rfl, Below.refl _ _⟩
end Go.Proofs.Ytaahjegdcahccaa
