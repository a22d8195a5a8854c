/- The promises on series. -/
import Derived.Test.YtnobpckmlhgeiaaPSer
namespace Go.Proofs.Ytnobpckmlhgeiaa
open Go.RowKit

theorem SerPost.yes {n : Nat} {r : Option (Nat → Int)} {f : Nat → Int} {w w' : World} {e : Ending} (h : SerPost n r w e w') (hr : r = some f) : Below w.heap.size w w' ∧ ∃ x c, e = .returned (.tuple #[.slice (some ⟨x, 0, none⟩) n c, .bool true]) ∧ w.heap.size ≤ x ∧ NumR w' x n f := by
  subst hr
  obtain ⟨hB, ⟨h, _⟩ | ⟨f', x, c, h, he, hx, _, hn⟩⟩ := h
  · cases h
  · cases h; exact ⟨hB, x, c, he, hx, hn⟩
theorem SerPost.no {n : Nat} {r : Option (Nat → Int)} {w w' : World} {e : Ending} (h : SerPost n r w e w') (hr : r = none) : Below w.heap.size w w' ∧ e = .returned (.tuple #[.slice none 0 0, .bool false]) := by
  subst hr
  obtain ⟨hB, ⟨_, he⟩ | ⟨f', x, c, h, _⟩⟩ := h
  · exact ⟨hB, he⟩
  · cases h
theorem SerPostS.yes {n : Nat} {r : Option (Nat → Int)} {f : Nat → Int} {w w' : World} {e : Ending} (h : SerPostS n r w e w') (hr : r = some f) : Below w.heap.size w w' ∧ ∃ a c, e = .returned (.tuple #[.slice a n c, .bool true]) ∧ NumO w' a n f := by
  subst hr
  obtain ⟨hB, ⟨h, _⟩ | ⟨f', a, c, h, he, hn⟩⟩ := h
  · cases h
  · cases h; exact ⟨hB, a, c, he, hn⟩
theorem SerPostS.no {n : Nat} {r : Option (Nat → Int)} {w w' : World} {e : Ending} (h : SerPostS n r w e w') (hr : r = none) : Below w.heap.size w w' ∧ ∃ a c, e = .returned (.tuple #[.slice a 0 c, .bool false]) := by
  subst hr
  obtain ⟨hB, ⟨_, h⟩ | ⟨f', a, c, h, _⟩⟩ := h
  · exact ⟨hB, h⟩
  · cases h

set_option maxRecDepth 100000 in
set_option maxHeartbeats 1000000 in
theorem sameInts_any (n : Nat) (f : Nat → Int) (a b : Option Addr) (ca cb : Nat) (w : World) (hn : n ≤ 1048576) (ha : NumO w a n f) (hb : NumO w b n f) :
    Calls Try.prog 32 #[.slice a n ca, .slice b n cb] w (Ans (.bool true) w) := by
  have HA := Lib.hid ha
  have HB := Lib.hid hb
  clear ha hb
  go_enter Try.func32, Try.ntmps32
  go_wp2_with fail
  go_loopw [5] (fun i wr => ∃ k : Nat, k ≤ n ∧ i = .int .i64 k ∧ Below w.heap.size w wr) (fun i _ => n - (intOf i).toNat)
  case atStart => exact ⟨0, Nat.zero_le _, rfl, Below.refl _ _⟩
  case round =>
    obtain ⟨k, hk, rfl, hB⟩ := hrel
    by_cases hlt : k < n
    · obtain ⟨g, o, ea, c1⟩ := (HA.out.below hB) k hlt
      obtain ⟨g', o', eb, c2⟩ := (HB.out.below hB) k hlt
      subst ea eb
      have k0 : (0 : Int) ≤ k := by omega
      go_wp2_with fail
      go_quiet (fail)
      go_wp2_with fail
      exact ⟨⟨k + 1, by omega, by go_num, below_drewN hB nq⟩, by simp [intOf]; omega⟩
    · go_wp2_with fail
      go_ret
      exact ⟨rfl, hB⟩

theorem same0_any (a b : Option Addr) (ca cb : Nat) (w : World) :
    Calls Try.prog 32 #[.slice a 0 ca, .slice b 0 cb] w (Ans (.bool true) w) :=
  sameInts_any 0 (fun _ => 0) a b ca cb w (by omega) (fun j hj => by omega) (fun j hj => by omega)

/-- One list is drawn. -/
def Dr1 (w : World) (e : Ending) (w' : World) : Prop :=
  Below w.heap.size w w' ∧ ∃ m x c f, e = .returned (.slice (some ⟨x, 0, none⟩) m c) ∧ m ≤ 8 ∧ NumR w' x m f
/-- Two lists are drawn. -/
def Dr2 (w : World) (e : Ending) (w' : World) : Prop :=
  Below w.heap.size w w' ∧ ∃ m x c f m2 x2 c2 f2, e = .returned (.tuple #[.slice (some ⟨x, 0, none⟩) m c, .slice (some ⟨x2, 0, none⟩) m2 c2]) ∧ m ≤ 8 ∧ NumR w' x m f ∧ m2 ≤ 8 ∧ NumR w' x2 m2 f2

set_option maxRecDepth 100000 in
set_option maxHeartbeats 1000000 in
theorem dSeriesValid_any (bs : List Nat) (a : Option Addr) (cap : Nat) (w : World) (hn : bs.length ≤ 9223372036854775807) (hcap : bs.length ≤ cap) (h8 : ∀ z ∈ bs, z ≤ 255) (hl : LiesB w a bs) :
    Calls Try.prog 35 #[.slice a bs.length cap] w (Dr1 w) := by
  have HO := Lib.hid (l6Open_any bs a cap w hn hcap h8 hl)
  clear h8 hl
  go_enter Try.func35, Try.ntmps35
  go_wp2_with fail
  refine HO.out.mono ?_
  rintro e w1 ⟨rfl, hB1, hr1⟩
  have HB1 := Lib.hid hB1
  have HP := Lib.hid (pick_any _ a cap 0 7 _ w1 hr1 (by omega) (by omega) (by omega))
  have hl1 := hr1.cells.2.2.2
  clear hB1 hr1
  go_wp2_with fail
  refine HP.out.mono ?_
  rintro e w2 ⟨⟨k, hk, rfl⟩, hg2, hs2, hr2⟩
  have HB2 : Hid (Below w.heap.size w w2) := Lib.hid (HB1.out.grown hg2 HB1.out.size (fun q e => by simp only [Option.some.injEq] at e; omega))
  have HS := Lib.hid (l92Series_any w.heap.size a cap (0 + 1) (1 + k) (1 + (k : Int)) _ w2 (by omega) hr2 (by omega) (by omega) (by omega))
  have hs2b := Nat.le_of_eq hs2.symm
  clear hg2 hr2 hs2
  go_wp2_with fail
  refine HS.out.mono ?_
  rintro e w3 ⟨⟨m, x, c, f, rfl, hm, hx, hn3⟩, hg3, hr3⟩
  have HB3 : Hid (Below w.heap.size w w3) := Lib.hid (HB2.out.grown hg3 HB2.out.size (fun q e => by simp only [Option.some.injEq] at e; omega))
  have HN3 := Lib.hid hn3
  clear hg3 hr3 hn3
  go_wp2_with fail
  go_ret
  exact ⟨HB3.out, m, x, c, f, rfl, hm, HN3.out⟩

set_option maxRecDepth 100000 in
set_option maxHeartbeats 1000000 in
theorem l92Pair_any (bs : List Nat) (a : Option Addr) (cap : Nat) (w : World) (hn : bs.length ≤ 9223372036854775807) (hcap : bs.length ≤ cap) (h8 : ∀ z ∈ bs, z ≤ 255) (hl : LiesB w a bs) :
    Calls Try.prog 49 #[.slice a bs.length cap] w (Dr2 w) := by
  have HO := Lib.hid (l6Open_any bs a cap w hn hcap h8 hl)
  clear h8 hl
  go_enter Try.func49, Try.ntmps49
  go_wp2_with fail
  refine HO.out.mono ?_
  rintro e w1 ⟨rfl, hB1, hr1⟩
  have HB1 := Lib.hid hB1
  have HP := Lib.hid (pick_any _ a cap 0 6 _ w1 hr1 (by omega) (by omega) (by omega))
  have hl1 := hr1.cells.2.2.2
  clear hB1 hr1
  go_wp2_with fail
  refine HP.out.mono ?_
  rintro e w2 ⟨⟨k, hk, rfl⟩, hg2, hs2, hr2⟩
  have HB2 : Hid (Below w.heap.size w w2) := Lib.hid (HB1.out.grown hg2 HB1.out.size (fun q e => by simp only [Option.some.injEq] at e; omega))
  have HS := Lib.hid (l92Series_any w.heap.size a cap (0 + 1) (1 + k) (1 + (k : Int)) _ w2 (by omega) hr2 (by omega) (by omega) (by omega))
  have hs2b := Nat.le_of_eq hs2.symm
  clear hg2 hr2 hs2
  go_wp2_with fail
  refine HS.out.mono ?_
  rintro e w3 ⟨⟨m, x, c, f, rfl, hm, hx, hn3⟩, hg3, hr3⟩
  have HB3 : Hid (Below w.heap.size w w3) := Lib.hid (HB2.out.grown hg3 HB2.out.size (fun q e => by simp only [Option.some.injEq] at e; omega))
  have HN3 := Lib.hid hn3
  have HQ := Lib.hid (pick_any w.heap.size a cap (0 + 1 + (1 + k)) 12 _ w3 hr3 (by omega) (by omega) (by omega))
  have hs3 := hg3.size
  clear hg3 hr3 hn3
  go_wp2_with fail
  refine HQ.out.mono ?_
  rintro e w4 ⟨⟨k2, hk2, rfl⟩, hg4, hs4, hr4⟩
  have HB4 : Hid (Below w.heap.size w w4) := Lib.hid (HB3.out.grown hg4 HB3.out.size (fun q e => by simp only [Option.some.injEq] at e; omega))
  have HN4 := Lib.hid (HN3.out.block (hg4.block x HN3.out.lt (fun e => by simp only [Option.some.injEq] at e; omega)))
  have hs4b := Nat.le_of_eq hs4.symm
  have hdv : (k2 : Int).tdiv 11 = ((k2 / 11 : Nat) : Int) := rfl
  obtain ⟨d, hd⟩ : ∃ d, d = k2 / 11 := ⟨_, rfl⟩
  rw [← hd] at hdv
  have hd1 : d ≤ 1 := by omega
  have HS2 := Lib.hid (l92Series_any w.heap.size a cap (0 + 1 + (1 + k) + 1) (1 + k + d) (1 + (k : Int) + (d : Int)) _ w4 (by omega) hr4 (by omega) (by omega) (by omega))
  have hw1 : IntKind.i64.wrap (1 + (k : Int) + (d : Int)) = 1 + (k : Int) + (d : Int) := by rw [IntKind.wrap_i64]; omega
  have hw2 : IntKind.i64.wrap (d : Int) = (d : Int) := by rw [IntKind.wrap_i64]; omega
  clear hg4 hr4 hs4 hd
  go_wp2_with fail
  refine HS2.out.mono ?_
  rintro e w5 ⟨⟨m2, x2, c2, f2, rfl, hm2, hx2, hn5⟩, hg5, hr5⟩
  have HB5 : Hid (Below w.heap.size w w5) := Lib.hid (HB4.out.grown hg5 HB4.out.size (fun q e => by simp only [Option.some.injEq] at e; omega))
  have HN5 := Lib.hid hn5
  have HN45 := Lib.hid (HN4.out.block (hg5.block x HN4.out.lt (fun e => by simp only [Option.some.injEq] at e; omega)))
  clear hg5 hr5 hn5
  go_wp2_with fail
  go_ret2
  exact ⟨HB5.out, m, x, c, f, m2, x2, c2, f2, rfl, hm, HN45.out, hm2, HN5.out⟩

set_option maxRecDepth 100000 in
set_option maxHeartbeats 1000000 in
theorem dSeriesInverse_any (bs : List Nat) (a : Option Addr) (cap : Nat) (w : World) (hn : bs.length ≤ 9223372036854775807) (hcap : bs.length ≤ cap) (h8 : ∀ z ∈ bs, z ≤ 255) (hl : LiesB w a bs) :
    Calls Try.prog 36 #[.slice a bs.length cap] w (Dr1 w) := by
  have HD := Lib.hid (dSeriesValid_any bs a cap w hn hcap h8 hl)
  clear h8 hl
  go_enter Try.func36, Try.ntmps36
  go_wp2_with fail
  refine HD.out.mono ?_
  rintro e w1 ⟨hB1, m, x, c, f, rfl, hm, hr⟩
  have HB1 := Lib.hid hB1
  have HR := Lib.hid hr
  clear hB1 hr
  go_wp2_with fail
  go_ret
  exact ⟨HB1.out, m, x, c, f, rfl, hm, HR.out⟩

set_option maxRecDepth 100000 in
set_option maxHeartbeats 1000000 in
theorem dSeriesTurn_any (bs : List Nat) (a : Option Addr) (cap : Nat) (w : World) (hn : bs.length ≤ 9223372036854775807) (hcap : bs.length ≤ cap) (h8 : ∀ z ∈ bs, z ≤ 255) (hl : LiesB w a bs) :
    Calls Try.prog 34 #[.slice a bs.length cap] w (Dr1 w) := by
  have HD := Lib.hid (dSeriesValid_any bs a cap w hn hcap h8 hl)
  clear h8 hl
  go_enter Try.func34, Try.ntmps34
  go_wp2_with fail
  refine HD.out.mono ?_
  rintro e w1 ⟨hB1, m, x, c, f, rfl, hm, hr⟩
  have HB1 := Lib.hid hB1
  have HR := Lib.hid hr
  clear hB1 hr
  go_wp2_with fail
  go_ret
  exact ⟨HB1.out, m, x, c, f, rfl, hm, HR.out⟩

set_option maxRecDepth 100000 in
set_option maxHeartbeats 1000000 in
theorem dSeriesDual_any (bs : List Nat) (a : Option Addr) (cap : Nat) (w : World) (hn : bs.length ≤ 9223372036854775807) (hcap : bs.length ≤ cap) (h8 : ∀ z ∈ bs, z ≤ 255) (hl : LiesB w a bs) :
    Calls Try.prog 33 #[.slice a bs.length cap] w (Dr1 w) := by
  have HD := Lib.hid (dSeriesValid_any bs a cap w hn hcap h8 hl)
  clear h8 hl
  go_enter Try.func33, Try.ntmps33
  go_wp2_with fail
  refine HD.out.mono ?_
  rintro e w1 ⟨hB1, m, x, c, f, rfl, hm, hr⟩
  have HB1 := Lib.hid hB1
  have HR := Lib.hid hr
  clear hB1 hr
  go_wp2_with fail
  go_ret
  exact ⟨HB1.out, m, x, c, f, rfl, hm, HR.out⟩

set_option maxRecDepth 100000 in
set_option maxHeartbeats 1000000 in
theorem dSeriesTimes_any (bs : List Nat) (a : Option Addr) (cap : Nat) (w : World) (hn : bs.length ≤ 9223372036854775807) (hcap : bs.length ≤ cap) (h8 : ∀ z ∈ bs, z ≤ 255) (hl : LiesB w a bs) :
    Calls Try.prog 31 #[.slice a bs.length cap] w (Dr2 w) := by
  have HD := Lib.hid (l92Pair_any bs a cap w hn hcap h8 hl)
  clear h8 hl
  go_enter Try.func31, Try.ntmps31
  go_wp2_with fail
  refine HD.out.mono ?_
  rintro e w1 ⟨hB1, m, x, c, f, m2, x2, c2, f2, rfl, hm, hr, hm2, hr2⟩
  have HB1 := Lib.hid hB1
  have HR := Lib.hid hr
  have HR2 := Lib.hid hr2
  clear hB1 hr hr2
  go_wp2_with fail
  go_ret2
  exact ⟨HB1.out, m, x, c, f, m2, x2, c2, f2, rfl, hm, HR.out, hm2, HR2.out⟩

set_option maxRecDepth 100000 in
set_option maxHeartbeats 1000000 in
theorem dSeriesCompose_any (bs : List Nat) (a : Option Addr) (cap : Nat) (w : World) (hn : bs.length ≤ 9223372036854775807) (hcap : bs.length ≤ cap) (h8 : ∀ z ∈ bs, z ≤ 255) (hl : LiesB w a bs) :
    Calls Try.prog 37 #[.slice a bs.length cap] w (Dr2 w) := by
  have HD := Lib.hid (l92Pair_any bs a cap w hn hcap h8 hl)
  clear h8 hl
  go_enter Try.func37, Try.ntmps37
  go_wp2_with fail
  refine HD.out.mono ?_
  rintro e w1 ⟨hB1, m, x, c, f, m2, x2, c2, f2, rfl, hm, hr, hm2, hr2⟩
  have HB1 := Lib.hid hB1
  have HR := Lib.hid hr
  have HR2 := Lib.hid hr2
  clear hB1 hr hr2
  go_wp2_with fail
  go_ret2
  exact ⟨HB1.out, m, x, c, f, m2, x2, c2, f2, rfl, hm, HR.out, hm2, HR2.out⟩

theorem ansTurn_some {n : Nat} {f r : Nat → Int} (h : ansTurn n f = some r) : serOk n f = true ∧ r = serTurn f := by
  unfold ansTurn at h
  split at h
  · simp only [Option.some.injEq] at h; exact ⟨by assumption, h.symm⟩
  · cases h
theorem ansTurn_again {n : Nat} {f r : Nat → Int} (h : ansTurn n f = some r) : ansTurn n r = some (serTurn r) := by
  obtain ⟨h1, rfl⟩ := ansTurn_some h
  rw [ansTurn, if_pos (serTurn_ok h1)]
theorem ansTurn_back {n : Nat} {f r : Nat → Int} (h : ansTurn n f = some r) : ∀ j, j < n → serTurn r j = f j := by
  obtain ⟨h1, rfl⟩ := ansTurn_some h
  exact fun j _ => serTurn_turn f j

theorem ansTimes_some {n m : Nat} {f g r : Nat → Int} (h : ansTimes n m f g = some r) : serOk n f = true ∧ serOk n g = true ∧ m = n ∧ r = serMul f g := by
  unfold ansTimes at h
  split at h
  · rename_i h1
    obtain ⟨a, b, c⟩ := serTwo_yes h1
    simp only [Option.some.injEq] at h; exact ⟨a, b, c, h.symm⟩
  · cases h
theorem ansTimes_len {n m : Nat} {f g r : Nat → Int} (h : ansTimes n m f g = some r) : m = n := (ansTimes_some h).2.2.1
theorem ansTimes_pos {n m : Nat} {f g r : Nat → Int} (h : ansTimes n m f g = some r) : 1 ≤ n := (serOk_iff.1 (ansTimes_some h).1).1
theorem ansTimes_comm {n m : Nat} {f g r : Nat → Int} (h : ansTimes n m f g = some r) : ansTimes m n g f = some (serMul g f) := by
  obtain ⟨a, b, rfl, _⟩ := ansTimes_some h
  rw [ansTimes, if_pos (by simp [serTwo, a, b])]
theorem ansTimes_eq {n m : Nat} {f g r : Nat → Int} (h : ansTimes n m f g = some r) : ∀ j, j < n → serMul g f j = r j := by
  obtain ⟨a, b, rfl, rfl⟩ := ansTimes_some h
  exact fun j _ => serMul_comm g f j
theorem ansTimes_first {n m : Nat} {f g r : Nat → Int} (h : ansTimes n m f g = some r) : r 0 = 1 := by
  obtain ⟨a, b, rfl, rfl⟩ := ansTimes_some h
  have h1 := (serOk_iff.1 a).2.2.1
  have h2 := (serOk_iff.1 b).2.2.1
  show 0 + f 0 * g (0 - 0) = 1
  rw [Nat.sub_self, h1, h2]; rfl

theorem ansInv_some {n : Nat} {f r : Nat → Int} (h : ansInv n f = some r) : serOk n f = true ∧ serInv f n (n - 1) = some r := by
  unfold ansInv at h
  split at h
  · exact ⟨by assumption, h⟩
  · cases h
theorem ansInv_pos {n : Nat} {f r : Nat → Int} (h : ansInv n f = some r) : 1 ≤ n := (serOk_iff.1 (ansInv_some h).1).1
theorem ansInv_x {n : Nat} {f r : Nat → Int} (h : ansInv n f = some r) : r 0 = 1 ∧ ∀ j, j < n → serPart f r n j = serX j := by
  obtain ⟨h1, h2⟩ := ansInv_some h
  have h3 := serOk_iff.1 h1
  exact ⟨(serOk_iff.1 (serInv_ok h3.1 h3.2.1 _ _ h2).1).2.2.1, fun j hj => serInv_right h1 (n - 1) r h2 (by omega) j (by omega)⟩
theorem ansComp_some {n m : Nat} {f g r : Nat → Int} (h : ansComp n m f g = some r) : serOk n f = true ∧ serOk n g = true ∧ m = n ∧ r = serPart f g n := by
  unfold ansComp at h
  split at h
  · rename_i h1
    obtain ⟨a, b, c⟩ := serTwo_yes h1
    cases hc : serComp f g n with
    | none => rw [hc] at h; cases h
    | some r' =>
      rw [hc] at h
      simp only at h
      split at h
      · simp only [Option.some.injEq] at h
        subst h
        unfold serComp at hc
        split at hc
        · simp only [Option.some.injEq] at hc; exact ⟨a, b, c, hc.symm⟩
        · cases hc
      · cases h
  · cases h
theorem ansComp_len {n m : Nat} {f g r : Nat → Int} (h : ansComp n m f g = some r) : m = n := (ansComp_some h).2.2.1
theorem ansComp_zero (n : Nat) (f : Nat → Int) : ansComp n 0 f (fun _ => 0) = none := by
  rw [ansComp, if_neg]
  intro h
  have := (serTwo_yes h).2.2
  subst this
  have := (serOk_iff.1 (serTwo_yes h).1).1
  omega
theorem ansInv_right {n : Nat} {f r u : Nat → Int} (h : ansInv n f = some r) (hu : ansComp n n f r = some u) : ∀ j, j < n → u j = serX j := by
  obtain ⟨_, _, _, rfl⟩ := ansComp_some hu
  exact (ansInv_x h).2
theorem ansInv_left {n : Nat} {f r v : Nat → Int} (h : ansInv n f = some r) (hv : ansComp n n r f = some v) : ∀ j, j < n → v j = serX j := by
  obtain ⟨_, _, _, rfl⟩ := ansComp_some hv
  have h1 := ansInv_x h
  exact ser_left_inverse (ansInv_pos h) h1.1 h1.2
theorem ansInv_back {n : Nat} {f r y : Nat → Int} (h : ansInv n f = some r) (hy : ansInv n r = some y) : ∀ j, j < n → y j = f j :=
  ser_two_inverse (ansInv_pos h) (ansInv_x h).2 (ansInv_x hy).2
theorem ansDual_some {n : Nat} {f r : Nat → Int} (h : ansDual n f = some r) : ∃ u, ansInv n f = some u ∧ r = serTurn u := by
  rw [ansDual_of] at h
  cases hu : ansInv n f with
  | none => rw [hu] at h; cases h
  | some u =>
    rw [hu] at h
    exact ⟨u, rfl, (ansTurn_some h).2⟩
theorem ansDual_back {n : Nat} {f r v : Nat → Int} (h : ansDual n f = some r) (hv : ansDual n r = some v) : ∀ j, j < n → v j = f j := by
  obtain ⟨u, hu, rfl⟩ := ansDual_some h
  obtain ⟨y, hy, rfl⟩ := ansDual_some hv
  refine ser_two_inverse (ansInv_pos hu) (ansInv_x hu).2 fun j hj => ?_
  have h1 := (ansInv_x hy).2 j hj
  have h2 := serTurn_part (serTurn u) y n j
  rw [serPart_congr (f' := u) (g' := serTurn y) (fun t _ => serTurn_turn u t) (fun _ _ => rfl)] at h2
  rw [h2]
  show (if j % 2 = 1 then - serPart (serTurn u) y n j else serPart (serTurn u) y n j) = _
  rw [h1]
  unfold serX
  by_cases e : j = 0
  · subst e; rfl
  · rw [if_neg e]; split <;> rfl
theorem ansComp_x {n : Nat} {f u : Nat → Int} (_h : serOk n f = true) (hu : ansComp n n f serX = some u) : ∀ j, j < n → u j = f j := by
  obtain ⟨_, _, _, rfl⟩ := ansComp_some hu
  exact fun j hj => serPart_x f n j hj
theorem ansX_comp {n : Nat} {f v : Nat → Int} (h : serOk n f = true) (hv : ansComp n n serX f = some v) : ∀ j, j < n → v j = f j := by
  obtain ⟨_, _, _, rfl⟩ := ansComp_some hv
  exact fun j _ => serX_part f n j (serOk_iff.1 h).1
theorem ansComp_assoc {n m : Nat} {f g r u v y : Nat → Int} (hr : ansComp n m f g = some r) (hu : ansComp n m r g = some u) (hv : ansComp m m g g = some v) (hy : ansComp n m f v = some y) : ∀ j, j < n → y j = u j := by
  obtain ⟨_, _, e, rfl⟩ := ansComp_some hr
  subst e
  obtain ⟨_, _, _, rfl⟩ := ansComp_some hu
  obtain ⟨_, _, _, rfl⟩ := ansComp_some hv
  obtain ⟨_, _, _, rfl⟩ := ansComp_some hy
  exact fun j hj => (serPart_assoc f g g _ j hj).symm

end Go.Proofs.Ytnobpckmlhgeiaa
