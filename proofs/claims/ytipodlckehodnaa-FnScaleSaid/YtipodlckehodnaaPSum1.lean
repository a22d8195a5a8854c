/- Two sums compared; what the calls answer where they are told; sums that are drawn for the promises. -/
import Derived.Test.YtipodlckehodnaaDrS
import Derived.Test.YtipodlckehodnaaPSumM
import Derived.Test.YtipodlckehodnaaAddJ
import Derived.Test.YtipodlckehodnaaSumOpsI
import Derived.Test.YtipodlckehodnaaSumOpsS
namespace Go.Proofs.Ytipodlckehodnaa
open Go.RowKit

theorem TermL.o {w : World} {g : Nat} {ys : List (Int × ByteArray)} (h : TermL w g ys) : TermO w (some ⟨g, 0, none⟩) ys := fun j hj => by
  obtain ⟨h1, h2⟩ := h j hj
  exact ⟨g, 0, rfl, by rw [Nat.zero_add]; exact h1, by rw [Nat.zero_add]; exact h2⟩

theorem TermO.none {w : World} {a : Option Addr} : TermO w a [] := fun _ h => by simp at h

set_option maxRecDepth 100000 in
set_option maxHeartbeats 1000000 in
/-- Equal sums are told so. -/
theorem sameSum_any (ys : List (Int × ByteArray)) (n : Nat) (hny : n = ys.length) (a b : Option Addr) (ca cb : Nat) (w : World) (hn : n ≤ 1048576) (ha : TermO w a ys) (hb : TermO w b ys) :
    Calls Try.prog 18 #[.slice a n ca, .slice b n cb] w (Ans (.bool true) w) := by
  have HA := Lib.hid ha
  have HB := Lib.hid hb
  have HNN := Lib.hid hny
  clear ha hb hny
  go_enter Try.func18, Try.ntmps18
  go_wp2_with fail
  go_loopw [5] (fun i wr => ∃ k : Nat, k ≤ n ∧ i = .int .i64 k ∧ Below w.heap.size w wr) (fun i _ => n - (intOf i).toNat)
  case atStart => exact ⟨0, Nat.zero_le _, rfl, Below.refl _ _⟩
  case round =>
    obtain ⟨k, hk, rfl, hB⟩ := hrel
    by_cases hlt : k < n
    · have hlt' : k < ys.length := by rw [← HNN.out]; exact hlt
      obtain ⟨b1, o1, rfl, c1, c2⟩ := (HA.out.below hB) k hlt'
      obtain ⟨b2, o2, rfl, c3, c4⟩ := (HB.out.below hB) k hlt'
      obtain ⟨x, hx⟩ : ∃ x, x = (ys[k]).1 := ⟨_, rfl⟩
      obtain ⟨s, hs⟩ : ∃ s, s = (ys[k]).2 := ⟨_, rfl⟩
      rw [← hx] at c1 c3
      rw [← hs] at c2 c4
      have k0 : (0 : Int) ≤ k := by omega
      have HBR := Lib.hid hB
      clear hx hs hB
      go_wp2_with fail
      go_quiet (fail)
      go_wp2_with fail
      go_roundw
      case rel => exact ⟨k + 1, by omega, by go_num, below_drewN HBR.out nq⟩
      case measure => simp [intOf]; omega
    · go_wp2_with fail
      go_ret
      exact ⟨rfl, hB⟩

/-- A list is told, new. -/
def GotL (zs : List (Int × ByteArray)) (N : Nat) (w : World) (e : Ending) (w' : World) : Prop :=
  Below w.heap.size w w' ∧ ∃ g c, e = .returned (.tuple #[.slice (some ⟨g, 0, none⟩) N c, .bool true]) ∧ TermL w' g zs
def LostL (w : World) (e : Ending) (w' : World) : Prop := Below w.heap.size w w' ∧ ∃ a c, e = .returned (.tuple #[.slice a 0 c, .bool false])

theorem TermsPost.gotL {qs : List Tm} {zs : List (Int × ByteArray)} {N : Nat} {w w' : World} {e : Ending} (h : TermsPost (some qs) w e w') (hN : N = qs.length) (hz : txtTm qs = zs) : GotL zs N w e w' := by
  obtain ⟨hB, ⟨h1, _⟩ | ⟨qs', g, c, cur, h1, rfl, _, _, _, h2⟩⟩ := h
  · cases h1
  · cases h1
    subst hN
    subst hz
    exact ⟨hB, g, c, rfl, h2⟩
theorem TermsPost.lostL {w w' : World} {e : Ending} (h : TermsPost none w e w') : LostL w e w' := by
  obtain ⟨hB, ⟨_, a, c, rfl⟩ | ⟨qs', g, c, cur, h1, _⟩⟩ := h
  · exact ⟨hB, a, c, rfl⟩
  · cases h1

theorem TmSmall.size {ys : List (Int × ByteArray)} (h : TmSmall ys) : ∀ j (h : j < ys.length), (ys[j]).2.size ≤ 1048576 := fun j hj => by have := (h j hj).1; omega

theorem outOf_txt {ps qs : List Tm} (h : outOf ps = some qs) (hc : ∀ p ∈ ps, 1 ≤ p.1 ∧ p.1 ≤ 100) : TmSmall (txtTm qs) := by
  obtain ⟨rfl, _, ht⟩ := outOf_some h
  exact txt_small (fun p hp => ⟨(ht p hp).1, (ht p hp).2, (hc p hp).1, (hc p hp).2⟩)

/-- A list of terms is drawn. -/
def DrL (w : World) (e : Ending) (w' : World) : Prop :=
  Below w.heap.size w w' ∧ ∃ (ys : List (Int × ByteArray)) (g n c : Nat), e = .returned (.slice (some ⟨g, 0, none⟩) n c) ∧ n = ys.length ∧ n ≤ 60 ∧ TmSmall ys ∧ TermL w' g ys

theorem SumDr.size {R : Nat} {a : Option Addr} {cap : Nat} {bs : List Nat} {p : Nat} {w w' : World} {e : Ending} (h : SumDr R a cap bs p w e w') : w.heap.size ≤ w'.heap.size := h.1.size

set_option maxRecDepth 100000 in
set_option maxHeartbeats 1000000 in
theorem dSumV_any (bs : List Nat) (a : Option Addr) (cap : Nat) (w : World) (hn : bs.length ≤ 9223372036854775807) (hcap : bs.length ≤ cap) (h8 : ∀ z ∈ bs, z ≤ 255) (hl : LiesB w a bs) :
    Calls Try.prog 13 #[.slice a bs.length cap] w (DrL w) := by
  have HO := Lib.hid (l6Open_any bs a cap w hn hcap h8 hl)
  clear h8 hl
  go_enter Try.func13, Try.ntmps13
  go_wp2_with fail
  refine HO.out.mono ?_
  rintro e w1 ⟨rfl, hb1, hr1⟩
  have HP := Lib.hid (pick_any w.heap.size a cap 0 4 (bs.take 2000) w1 hr1 (by omega) (by omega) (by omega))
  have HB1 := Lib.hid hb1
  clear hb1 hr1
  go_wp2_with fail
  refine HP.out.mono ?_
  rintro e w2 ⟨⟨k, hk, rfl⟩, hg2, hs2, hr2⟩
  obtain ⟨m, hm⟩ : ∃ m, m = 1 + k := ⟨_, rfl⟩
  have hwm : IntKind.i64.wrap (1 + (k : Int)) = (m : Int) := by rw [IntKind.wrap_i64]; omega
  have hm1 : 1 ≤ m ∧ m ≤ 4 := by omega
  have HB2 := Lib.hid (below_over HB1.out hg2 (fun r e => by cases e; exact Nat.le_refl _))
  have HX := Lib.hid (l91Sum_any w.heap.size a cap (bs.take 2000) 1 m w2 (by omega) (by omega) (by omega) hr2)
  clear hg2 hs2 hr2 hm
  go_wp2_with fail
  refine HX.out.mono ?_
  rintro e w3 ⟨hg3, ys, g, n, c, q, rfl, hny, hn60, hsm, htl, hge, hr3, hq⟩
  have HB3 := Lib.hid (below_over HB2.out hg3 (fun r e => by cases e; exact Nat.le_refl _))
  have HNY := Lib.hid hny
  clear hg3 hr3 hny
  go_wp2_with fail
  go_ret
  exact ⟨HB3.out, ys, g, n, c, rfl, HNY.out, hn60, hsm, htl⟩

set_option maxRecDepth 100000 in
theorem dSumLead_any (bs : List Nat) (a : Option Addr) (cap : Nat) (w : World) (hn : bs.length ≤ 9223372036854775807) (hcap : bs.length ≤ cap) (h8 : ∀ z ∈ bs, z ≤ 255) (hl : LiesB w a bs) :
    Calls Try.prog 29 #[.slice a bs.length cap] w (DrL w) := by
  have HO := Lib.hid (dSumV_any bs a cap w hn hcap h8 hl)
  clear h8 hl
  go_enter Try.func29, Try.ntmps29
  go_wp2_with fail
  refine HO.out.mono ?_
  rintro e w1 ⟨hB, ys, g, n, c, rfl, h1, h2, h3, h4⟩
  have HNY := Lib.hid h1
  clear h1
  go_wp2_with fail
  go_ret
  exact ⟨hB, ys, g, n, c, rfl, HNY.out, h2, h3, h4⟩

set_option maxRecDepth 100000 in
theorem dSumMirror_any (bs : List Nat) (a : Option Addr) (cap : Nat) (w : World) (hn : bs.length ≤ 9223372036854775807) (hcap : bs.length ≤ cap) (h8 : ∀ z ∈ bs, z ≤ 255) (hl : LiesB w a bs) :
    Calls Try.prog 33 #[.slice a bs.length cap] w (DrL w) := by
  have HO := Lib.hid (dSumV_any bs a cap w hn hcap h8 hl)
  clear h8 hl
  go_enter Try.func33, Try.ntmps33
  go_wp2_with fail
  refine HO.out.mono ?_
  rintro e w1 ⟨hB, ys, g, n, c, rfl, h1, h2, h3, h4⟩
  have HNY := Lib.hid h1
  clear h1
  go_wp2_with fail
  go_ret
  exact ⟨hB, ys, g, n, c, rfl, HNY.out, h2, h3, h4⟩

/-- A list of terms and a number are drawn. -/
def DrLI (w : World) (e : Ending) (w' : World) : Prop :=
  Below w.heap.size w w' ∧ ∃ (ys : List (Int × ByteArray)) (g n c : Nat) (z : Int), e = .returned (.tuple #[.slice (some ⟨g, 0, none⟩) n c, .int .i64 z]) ∧ n = ys.length ∧ n ≤ 60 ∧ TmSmall ys ∧ TermL w' g ys ∧ -1000 ≤ z ∧ z ≤ 1000

/-- A list lies as before where the reader alone has moved. -/
theorem TermL.moved {w w' : World} {R g : Nat} {ys : List (Int × ByteArray)} (h : TermL w g ys) (hg : w.grownBy w' (some R)) (hne : g ≠ R) : TermL w' g ys := fun j hj => by
  obtain ⟨h1, h2⟩ := h j hj
  exact ⟨keeps_row hg (fun b => b ≠ R) (fun b h => h) _ _ hne h1, keeps_row hg (fun b => b ≠ R) (fun b h => h) _ _ hne h2⟩

set_option maxRecDepth 100000 in
set_option maxHeartbeats 1000000 in
theorem dScale_any (bs : List Nat) (a : Option Addr) (cap : Nat) (w : World) (hn : bs.length ≤ 9223372036854775807) (hcap : bs.length ≤ cap) (h8 : ∀ z ∈ bs, z ≤ 255) (hl : LiesB w a bs) :
    Calls Try.prog 24 #[.slice a bs.length cap] w (DrLI w) := by
  have HO := Lib.hid (l6Open_any bs a cap w hn hcap h8 hl)
  clear h8 hl
  go_enter Try.func24, Try.ntmps24
  go_wp2_with fail
  refine HO.out.mono ?_
  rintro e w1 ⟨rfl, hb1, hr1⟩
  have HP := Lib.hid (pick_any w.heap.size a cap 0 4 (bs.take 2000) w1 hr1 (by omega) (by omega) (by omega))
  have HB1 := Lib.hid hb1
  have hRw1 := hr1.cells.2.2.2
  clear hb1 hr1
  go_wp2_with fail
  refine HP.out.mono ?_
  rintro e w2 ⟨⟨k, hk, rfl⟩, hg2, hs2, hr2⟩
  obtain ⟨m, hm⟩ : ∃ m, m = 1 + k := ⟨_, rfl⟩
  have hwm : IntKind.i64.wrap (1 + (k : Int)) = (m : Int) := by rw [IntKind.wrap_i64]; omega
  have hm1 : 1 ≤ m ∧ m ≤ 4 := by omega
  have HB2 := Lib.hid (below_over HB1.out hg2 (fun r e => by cases e; exact Nat.le_refl _))
  have HX := Lib.hid (l91Sum_any w.heap.size a cap (bs.take 2000) 1 m w2 (by omega) (by omega) (by omega) hr2)
  have hRw2 := hr2.cells.2.2.2
  clear hg2 hs2 hr2 hm
  go_wp2_with fail
  refine HX.out.mono ?_
  rintro e w3 ⟨hg3, ys, g, n, c, q, rfl, hny, hn60, hsm, htl, hge, hr3, hq⟩
  have HB3 := Lib.hid (below_over HB2.out hg3 (fun r e => by cases e; exact Nat.le_refl _))
  have HP3 := Lib.hid (pick_any w.heap.size a cap q 210 (bs.take 2000) w3 hr3 (by omega) (by omega) (by omega))
  have HTL := Lib.hid htl
  have HNY := Lib.hid hny
  clear hg3 hr3 htl hny
  go_wp2_with fail
  refine HP3.out.mono ?_
  rintro e w4 ⟨⟨x, hx, rfl⟩, hg4, hs4, hr4⟩
  obtain ⟨z, hz⟩ : ∃ z : Int, z = (x : Int) - 105 := ⟨_, rfl⟩
  have hwz : IntKind.i64.wrap ((x : Int) - 105) = z := by rw [IntKind.wrap_i64]; omega
  have hzb : -1000 ≤ z ∧ z ≤ 1000 := by omega
  have HB4 := Lib.hid (below_over HB3.out hg4 (fun r e => by cases e; exact Nat.le_refl _))
  have HT4 := Lib.hid (HTL.out.moved hg4 (by omega))
  clear hg4 hs4 hr4 hz
  go_wp2_with fail
  go_ret2
  exact ⟨HB4.out, ys, g, n, c, z, rfl, HNY.out, hn60, hsm, HT4.out, hzb.1, hzb.2⟩

/-- Two lists of terms are drawn. -/
def DrLL (w : World) (e : Ending) (w' : World) : Prop :=
  Below w.heap.size w w' ∧ ∃ (ys zs : List (Int × ByteArray)) (g n c g' n' c' : Nat), e = .returned (.tuple #[.slice (some ⟨g, 0, none⟩) n c, .slice (some ⟨g', 0, none⟩) n' c']) ∧ n = ys.length ∧ n ≤ 60 ∧ TmSmall ys ∧ TermL w' g ys ∧ n' = zs.length ∧ n' ≤ 60 ∧ TmSmall zs ∧ TermL w' g' zs

set_option maxRecDepth 100000 in
set_option maxHeartbeats 1000000 in
theorem dAdd_any (bs : List Nat) (a : Option Addr) (cap : Nat) (w : World) (hn : bs.length ≤ 9223372036854775807) (hcap : bs.length ≤ cap) (h8 : ∀ z ∈ bs, z ≤ 255) (hl : LiesB w a bs) :
    Calls Try.prog 21 #[.slice a bs.length cap] w (DrLL w) := by
  have HO := Lib.hid (l6Open_any bs a cap w hn hcap h8 hl)
  clear h8 hl
  go_enter Try.func21, Try.ntmps21
  go_wp2_with fail
  refine HO.out.mono ?_
  rintro e w1 ⟨rfl, hb1, hr1⟩
  have HP := Lib.hid (pick_any w.heap.size a cap 0 4 (bs.take 2000) w1 hr1 (by omega) (by omega) (by omega))
  have HB1 := Lib.hid hb1
  have hRw1 := hr1.cells.2.2.2
  clear hb1 hr1
  go_wp2_with fail
  refine HP.out.mono ?_
  rintro e w2 ⟨⟨k, hk, rfl⟩, hg2, hs2, hr2⟩
  obtain ⟨m, hm⟩ : ∃ m, m = 1 + k := ⟨_, rfl⟩
  have hwm : IntKind.i64.wrap (1 + (k : Int)) = (m : Int) := by rw [IntKind.wrap_i64]; omega
  have hm1 : 1 ≤ m ∧ m ≤ 4 := by omega
  have HB2 := Lib.hid (below_over HB1.out hg2 (fun r e => by cases e; exact Nat.le_refl _))
  have HX := Lib.hid (l91Sum_any w.heap.size a cap (bs.take 2000) 1 m w2 (by omega) (by omega) (by omega) hr2)
  have hRw2 := hr2.cells.2.2.2
  clear hg2 hs2 hr2 hm
  go_wp2_with fail
  refine HX.out.mono ?_
  rintro e w3 ⟨hg3, ys, g, n, c, q, rfl, hny, hn60, hsm, htl, hge, hr3, hq⟩
  have HB3 := Lib.hid (below_over HB2.out hg3 (fun r e => by cases e; exact Nat.le_refl _))
  have HP3 := Lib.hid (pick_any w.heap.size a cap q 12 (bs.take 2000) w3 hr3 (by omega) (by omega) (by omega))
  have HTL := Lib.hid htl
  have HNY := Lib.hid hny
  have hRw3 := hr3.cells.2.2.2
  clear hg3 hr3 htl hny
  go_wp2_with fail
  refine HP3.out.mono ?_
  rintro e w4 ⟨⟨x, hx, rfl⟩, hg4, hs4, hr4⟩
  obtain ⟨y, hy⟩ : ∃ y : Nat, y = x / 11 := ⟨_, rfl⟩
  have hy1 : (x : Int).tdiv 11 = (y : Int) := by rw [Int.tdiv_eq_ediv_of_nonneg (by omega)]; omega
  have hy2 : (x : Int) / 11 = (y : Int) := by omega
  have hyb : y ≤ 1 := by omega
  obtain ⟨m2, hm2⟩ : ∃ m2, m2 = m + y := ⟨_, rfl⟩
  have hwm2 : IntKind.i64.wrap ((m : Int) + (y : Int)) = (m2 : Int) := by rw [IntKind.wrap_i64]; omega
  have hwy : IntKind.i64.wrap (y : Int) = (y : Int) := by rw [IntKind.wrap_i64]; omega
  have hmb : 1 ≤ m2 ∧ m2 ≤ 5 := by omega
  have HB4 := Lib.hid (below_over HB3.out hg4 (fun r e => by cases e; exact Nat.le_refl _))
  have HT4 := Lib.hid (HTL.out.moved hg4 (by omega))
  have HX4 := Lib.hid (l91Sum_any w.heap.size a cap (bs.take 2000) (q + 1) m2 w4 (by omega) (by omega) (by omega) hr4)
  clear hg4 hs4 hr4 hy hm2
  go_wp2_with fail
  refine HX4.out.mono ?_
  rintro e w5 ⟨hg5, zs, g', n', c', q', rfl, hny', hn60', hsm', htl', hge', hr5, hq'⟩
  have HB5 := Lib.hid (below_over HB4.out hg5 (fun r e => by cases e; exact Nat.le_refl _))
  have HT5 := Lib.hid (HT4.out.moved hg5 (by omega))
  have HNY' := Lib.hid hny'
  clear hg5 hr5 hny'
  go_wp2_with fail
  go_ret2
  exact ⟨HB5.out, ys, zs, g, n, c, g', n', c', rfl, HNY.out, hn60, hsm, HT5.out, HNY'.out, hn60', hsm', htl'⟩
end Go.Proofs.Ytipodlckehodnaa
