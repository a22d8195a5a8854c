/- What the program's functions on series answer. -/
import Derived.Test.YtnobpckmlhgeiaaSerT
namespace Go.Proofs.Ytnobpckmlhgeiaa
open Go.RowKit Go.ChangeMaps Go.MapKept

/-- Two series of as many numbers. -/
def serTwo (n m : Nat) (f g : Nat → Int) : Bool := serOk n f && serOk m g && decide (n = m)

/-- The answers. -/
def ansTimes (n m : Nat) (f g : Nat → Int) : Option (Nat → Int) := if serTwo n m f g = true then some (serMul f g) else none
def ansComp (n m : Nat) (f g : Nat → Int) : Option (Nat → Int) := if serTwo n m f g = true then (match serComp f g n with | none => none | some r => if serOk n r = true then some r else none) else none
def ansInv (n : Nat) (s : Nat → Int) : Option (Nat → Int) := if serOk n s = true then serInverse n s else none
def ansTurn (n : Nat) (s : Nat → Int) : Option (Nat → Int) := if serOk n s = true then some (serTurn s) else none
def ansDual (n : Nat) (s : Nat → Int) : Option (Nat → Int) := if serOk n s = true then (serInverse n s).map serTurn else none

theorem serTwo_yes {n m : Nat} {f g : Nat → Int} (h : serTwo n m f g = true) : serOk n f = true ∧ serOk n g = true ∧ m = n := by
  simp only [serTwo, Bool.and_eq_true, decide_eq_true_eq] at h
  obtain ⟨⟨h1, h2⟩, rfl⟩ := h
  exact ⟨h1, h2, rfl⟩

set_option maxRecDepth 100000 in
set_option maxHeartbeats 1000000 in
theorem iSeriesTimes_any (n m : Nat) (f g : Nat → Int) (a b : Option Addr) (ca cb : Nat) (w : World) (hn : n ≤ 9223372036854775807) (hm : m ≤ 9223372036854775807) (hl : NumO w a n f) (hk : NumO w b m g) :
    Calls Try.prog 20 #[.slice a n ca, .slice b m cb] w (SerPost n (ansTimes n m f g) w) := by
  have HT := Lib.hid (readTwoSeries_any n m f g a b ca cb w hn hm hl hk)
  have HL := Lib.hid hl
  have HK := Lib.hid hk
  clear hl hk
  go_enter Try.func20, Try.ntmps20
  go_wp2_with fail
  refine HT.out.mono ?_
  rintro e w1 ⟨hB1, ⟨hok, rfl, rfl⟩ | ⟨hok, v, u, rfl⟩⟩
  · have hy := serTwo_yes (n := n) (m := n) hok
    have HE : Hid (ansTimes n n f g = some (serMul f g)) := Lib.hid (by rw [ansTimes, if_pos (show serTwo n n f g = true from hok)])
    have h1 := serOk_iff.1 hy.1
    have h2 := serOk_iff.1 hy.2.1
    have HB1 := Lib.hid hB1
    have HP := Lib.hid (serProd_any n f g a b ca cb w1 h1.2.1 (fun j hj => by have := h1.2.2.2 j hj; omega) h2.2.2.2 (HL.out.below hB1) (HK.out.below hB1))
    clear hok hy h1 h2 hB1
    go_wp2_with fail
    refine HP.out.mono ?_
    rintro e w2 ⟨hB2, x, c, rfl, hx, hc, hr⟩
    have HB2 := Lib.hid (below_step HB1.out hB2)
    have HR := Lib.hid hr
    have hs := HB1.out.size
    clear hB2 hr
    go_wp2_with fail
    go_ret2
    exact ⟨HB2.out, .inr ⟨_, x, c, HE.out, rfl, by omega, hc, HR.out⟩⟩
  · have HE : Hid (ansTimes n m f g = none) := Lib.hid (by rw [ansTimes, if_neg (by rw [serTwo, hok]; simp)])
    have HB1 := Lib.hid hB1
    clear hok hB1
    go_wp2_with fail
    go_ret2
    exact ⟨HB1.out, .inl ⟨HE.out, rfl⟩⟩

set_option maxRecDepth 100000 in
set_option maxHeartbeats 1000000 in
theorem iSeriesTurn_any (n : Nat) (f : Nat → Int) (a : Option Addr) (ca : Nat) (w : World) (hn : n ≤ 9223372036854775807) (hl : NumO w a n f) :
    Calls Try.prog 24 #[.slice a n ca] w (SerPost n (ansTurn n f) w) := by
  have HT := Lib.hid (readSeries_any n f a ca w hn hl)
  have HL := Lib.hid hl
  obtain ⟨bb, hbb⟩ : ∃ bb, serOk n f = bb := ⟨_, rfl⟩
  rw [hbb] at HT
  have HBB := Lib.hid hbb
  clear hl hbb
  go_enter Try.func24, Try.ntmps24
  go_wp2_with fail
  refine HT.out.mono ?_
  rintro e w1 ⟨rfl, hB1⟩
  have HB1 := Lib.hid hB1
  cases bb
  · have HE : Hid (ansTurn n f = none) := Lib.hid (by rw [ansTurn, HBB.out]; rfl)
    clear hB1
    go_wp2_with fail
    go_ret2
    exact ⟨HB1.out, .inl ⟨HE.out, rfl⟩⟩
  · have HE : Hid (ansTurn n f = some (serTurn f)) := Lib.hid (by rw [ansTurn, HBB.out]; rfl)
    have h1 := serOk_iff.1 HBB.out
    have HP := Lib.hid (turned_any n f a ca w1 (by omega) h1.2.1 h1.2.2.2 (HL.out.below hB1))
    clear h1 hB1
    go_wp2_with fail
    refine HP.out.mono ?_
    rintro e w2 ⟨hB2, x, c, rfl, hx, hc, hr⟩
    have HB2 := Lib.hid (below_step HB1.out hB2)
    have HR := Lib.hid hr
    have hs := HB1.out.size
    clear hB2 hr
    go_wp2_with fail
    go_ret2
    exact ⟨HB2.out, .inr ⟨_, x, c, HE.out, rfl, by omega, hc, HR.out⟩⟩

set_option maxRecDepth 100000 in
set_option maxHeartbeats 1000000 in
theorem iSeriesInverse_any (n : Nat) (f : Nat → Int) (a : Option Addr) (ca : Nat) (w : World) (hn : n ≤ 9223372036854775807) (hl : NumO w a n f) :
    Calls Try.prog 28 #[.slice a n ca] w (SerPost n (ansInv n f) w) := by
  have HT := Lib.hid (readSeries_any n f a ca w hn hl)
  have HL := Lib.hid hl
  obtain ⟨bb, hbb⟩ : ∃ bb, serOk n f = bb := ⟨_, rfl⟩
  rw [hbb] at HT
  have HBB := Lib.hid hbb
  clear hl hbb
  go_enter Try.func28, Try.ntmps28
  go_wp2_with fail
  refine HT.out.mono ?_
  rintro e w1 ⟨rfl, hB1⟩
  have HB1 := Lib.hid hB1
  cases bb
  · have HE : Hid (ansInv n f = none) := Lib.hid (by rw [ansInv, HBB.out]; rfl)
    clear hB1
    go_wp2_with fail
    go_ret2
    exact ⟨HB1.out, .inl ⟨HE.out, rfl⟩⟩
  · have HE : Hid (ansInv n f = serInverse n f) := Lib.hid (by rw [ansInv, HBB.out]; rfl)
    have HP := Lib.hid (serInverse_any n f a ca w1 HBB.out (HL.out.below hB1))
    have hs := hB1.size
    clear hB1
    go_wp2_with fail
    refine HP.out.mono ?_
    rintro e w2 ⟨hB2, ⟨hno, rfl⟩ | ⟨r, x, c, hyes, rfl, hx, hc, hr⟩⟩
    · have HB2 := Lib.hid (below_step HB1.out hB2)
      have HNO := Lib.hid hno
      clear hB2 hno
      go_wp2_with fail
      go_ret2
      exact ⟨HB2.out, .inl ⟨by rw [HE.out]; exact HNO.out, rfl⟩⟩
    · have HB2 := Lib.hid (below_step HB1.out hB2)
      have HYES := Lib.hid hyes
      have HR := Lib.hid hr
      clear hB2 hyes hr
      go_wp2_with fail
      go_ret2
      exact ⟨HB2.out, .inr ⟨r, x, c, by rw [HE.out]; exact HYES.out, rfl, by omega, hc, HR.out⟩⟩

set_option maxRecDepth 100000 in
set_option maxHeartbeats 1000000 in
theorem iSeriesDual_any (n : Nat) (f : Nat → Int) (a : Option Addr) (ca : Nat) (w : World) (hn : n ≤ 9223372036854775807) (hl : NumO w a n f) :
    Calls Try.prog 30 #[.slice a n ca] w (SerPost n (ansDual n f) w) := by
  have HT := Lib.hid (readSeries_any n f a ca w hn hl)
  have HL := Lib.hid hl
  obtain ⟨bb, hbb⟩ : ∃ bb, serOk n f = bb := ⟨_, rfl⟩
  rw [hbb] at HT
  have HBB := Lib.hid hbb
  clear hl hbb
  go_enter Try.func30, Try.ntmps30
  go_wp2_with fail
  refine HT.out.mono ?_
  rintro e w1 ⟨rfl, hB1⟩
  have HB1 := Lib.hid hB1
  cases bb
  · have HE : Hid (ansDual n f = none) := Lib.hid (by rw [ansDual, HBB.out]; rfl)
    clear hB1
    go_wp2_with fail
    go_ret2
    exact ⟨HB1.out, .inl ⟨HE.out, rfl⟩⟩
  · have HE : Hid (ansDual n f = (serInverse n f).map serTurn) := Lib.hid (by rw [ansDual, HBB.out]; rfl)
    have HP := Lib.hid (serInverse_any n f a ca w1 HBB.out (HL.out.below hB1))
    have h1 := serOk_iff.1 HBB.out
    have hs := hB1.size
    clear hB1
    go_wp2_with fail
    refine HP.out.mono ?_
    rintro e w2 ⟨hB2, ⟨hno, rfl⟩ | ⟨r, x, c, hyes, rfl, hx, hc, hr⟩⟩
    · have HB2 := Lib.hid (below_step HB1.out hB2)
      have HNO := Lib.hid hno
      clear hB2 hno h1
      go_wp2_with fail
      go_ret2
      exact ⟨HB2.out, .inl ⟨by rw [HE.out, HNO.out]; rfl, rfl⟩⟩
    · have HB2 := Lib.hid (below_step HB1.out hB2)
      have HYES := Lib.hid hyes
      have h2 := serOk_iff.1 (serInv_ok h1.1 h1.2.1 _ _ hyes).1
      have HU := Lib.hid (turned_any n r (some ⟨x, 0, none⟩) c w2 (by omega) h1.2.1 h2.2.2.2 hr.o)
      have hs2 := hB2.size
      clear hB2 hyes hr h1 h2
      go_wp2_with fail
      refine HU.out.mono ?_
      rintro e w3 ⟨hB3, x3, c3, rfl, hx3, hc3, hr3⟩
      have HB3 := Lib.hid (below_step HB2.out hB3)
      have HR3 := Lib.hid hr3
      clear hB3 hr3
      go_wp2_with fail
      go_ret2
      exact ⟨HB3.out, .inr ⟨_, x3, c3, by rw [HE.out, HYES.out]; rfl, rfl, by omega, hc3, HR3.out⟩⟩

set_option maxRecDepth 100000 in
set_option maxHeartbeats 1000000 in
theorem iSeriesCompose_any (n m : Nat) (f g : Nat → Int) (a b : Option Addr) (ca cb : Nat) (w : World) (hn : n ≤ 9223372036854775807) (hm : m ≤ 9223372036854775807) (hl : NumO w a n f) (hk : NumO w b m g) :
    Calls Try.prog 26 #[.slice a n ca, .slice b m cb] w (SerPost n (ansComp n m f g) w) := by
  have HT := Lib.hid (readTwoSeries_any n m f g a b ca cb w hn hm hl hk)
  have HL := Lib.hid hl
  have HK := Lib.hid hk
  have hmm := @run_makeMap Try.prog
  clear hl hk
  go_enter Try.func26, Try.ntmps26
  go_wp2_with fail
  refine HT.out.mono ?_
  rintro e w1 ⟨hB1, ⟨hok, rfl, rfl⟩ | ⟨hok, v, u, rfl⟩⟩
  · have hy := serTwo_yes (n := n) (m := n) hok
    have HE : Hid (ansComp n n f g = (match serComp f g n with | none => none | some r => if serOk n r = true then some r else none)) := Lib.hid (by rw [ansComp, if_pos (show serTwo n n f g = true from hok)])
    have h1 := serOk_iff.1 hy.1
    have h2 := serOk_iff.1 hy.2.1
    have HB1 := Lib.hid hB1
    obtain ⟨y, p, ea, d1⟩ := HL.out.below hB1 0 (by omega)
    obtain ⟨x, o, eb, d2⟩ := HK.out.below hB1 0 (by omega)
    subst ea eb
    have hyl : y < w1.heap.size := World.block_lt_of_cell? w1 _ d1
    have hxl : x < w1.heap.size := World.block_lt_of_cell? w1 _ d2
    have HC := Lib.hid (compose_any n f g y p ca x o cb w1.heap.size (w1.alloc (.map #[] 0)) h1.1 h1.2.1 h1.2.2.2 h2.2.2.2 ((HL.out.below hB1).below ((Below.refl _ _).alloc (Nat.le_refl _) _)) ((HK.out.below hB1).below ((Below.refl _ _).alloc (Nat.le_refl _) _)) (by omega) (by omega) ⟨0, .map [], World.ownsMap_made w1 Try.prog 3 serElem⟩)
    have hs1 := hB1.size
    have hn1 := h1.2.1
    clear hok hy h1 h2 hB1 d1 d2
    go_wp2_with fail
    refine HC.out.mono ?_
    rintro e w2 ⟨hg2, _, ⟨hno, rfl⟩ | ⟨r, x3, c3, hyes, rfl, hx3, hx3b, hc3, hr3⟩⟩
    · have HNO := Lib.hid hno
      have HB2 : Hid (Below w.heap.size w w2) := Lib.hid ((HB1.out.alloc hs1 _).grown hg2 (by simp; omega) (fun q e => by simp only [Option.some.injEq] at e; omega))
      clear hno hg2
      go_wp2_with fail
      go_ret2
      exact ⟨HB2.out, .inl ⟨by rw [HE.out, HNO.out], rfl⟩⟩
    · have HYES := Lib.hid hyes
      have HB2 : Hid (Below w.heap.size w w2) := Lib.hid ((HB1.out.alloc hs1 _).grown hg2 (by simp; omega) (fun q e => by simp only [Option.some.injEq] at e; omega))
      obtain ⟨bb, hbb⟩ : ∃ bb, serOk n r = bb := ⟨_, rfl⟩
      have HV := Lib.hid (isValid_any n r (some ⟨x3, 0, none⟩) c3 w2 hn hr3.o)
      rw [hbb] at HV
      have HBB := Lib.hid hbb
      have HR3 := Lib.hid hr3
      have hx3w : w.heap.size ≤ x3 := by simp at hx3; omega
      clear hyes hg2 hbb hr3 hx3
      go_wp2_with fail
      refine HV.out.mono ?_
      rintro e w3 ⟨rfl, hB3⟩
      have HB3 := Lib.hid (below_step HB2.out hB3)
      have HR4 := Lib.hid (HR3.out.below hB3)
      clear hB3
      cases bb
      · go_wp2_with fail
        go_ret2
        exact ⟨HB3.out, .inl ⟨by rw [HE.out, HYES.out]; simp [HBB.out], rfl⟩⟩
      · go_wp2_with fail
        go_ret2
        exact ⟨HB3.out, .inr ⟨r, x3, c3, by rw [HE.out, HYES.out]; simp [HBB.out], rfl, hx3w, hc3, HR4.out⟩⟩
  · have HE : Hid (ansComp n m f g = none) := Lib.hid (by rw [ansComp, if_neg (by rw [serTwo, hok]; simp)])
    have HB1 := Lib.hid hB1
    clear hok hB1
    go_wp2_with fail
    go_ret2
    exact ⟨HB1.out, .inl ⟨HE.out, rfl⟩⟩

end Go.Proofs.Ytnobpckmlhgeiaa
