/- What the model's functions on series answer. -/
import Derived.Test.YtnobpckmlhgeiaaSerV
namespace Go.Proofs.Ytnobpckmlhgeiaa
open Go.RowKit

set_option maxRecDepth 100000 in
set_option maxHeartbeats 1000000 in
theorem sSeriesInverse_any (n : Nat) (s : Nat → Int) (a : Option Addr) (ca : Nat) (w : World) (hn1 : n ≤ 1048576) (hl : NumO w a n s) :
    Calls Try.prog 27 #[.slice a n ca] w (SerPostS n (ansInv n s) w) := by
  obtain ⟨i0, hi0, hz0, hzs, hzb⟩ := info_parts infoNum
  have HV := Lib.hid (sSeriesValid_any n s a ca w hn1 hl)
  obtain ⟨bb, hbb⟩ : ∃ bb, serOk n s = bb := ⟨_, rfl⟩
  rw [hbb] at HV
  have HBB := Lib.hid hbb
  have HL := Lib.hid hl
  clear hl hbb
  go_enter Try.func27, Try.ntmps27
  cases bb
  · have HE : Hid (ansInv n s = none) := Lib.hid (by rw [ansInv, HBB.out]; rfl)
    go_wp2_with fail
    refine HV.out.mono ?_
    rintro e w1 ⟨rfl, hB1⟩
    have HB1 := Lib.hid hB1
    clear hB1
    go_wp2_with fail
    go_ret2
    exact ⟨HB1.out.alloc HB1.out.size _, .inl ⟨HE.out, _, _, rfl⟩⟩
  · have HE : Hid (ansInv n s = serInverse n s) := Lib.hid (by rw [ansInv, HBB.out]; rfl)
    obtain ⟨hn, hn2, hs0, hsb⟩ := serOk_iff.1 HBB.out
    have HSB := Lib.hid hsb
    clear hsb hs0
    go_wp2_with fail
    refine HV.out.mono ?_
    rintro e w1 ⟨rfl, hB1⟩
    have HB1 := Lib.hid hB1
    have hs1 := hB1.size
    clear hB1
    go_wp2_with (at_make; refine wpList_make_full _ rfl _ _ 22 rfl w1.heap.size 3 i0 (.int .i64 0) 1 Try.underlying22 hi0 hz0 hzs .i64 .i64 _ _ n rfl rfl rfl rfl ?c1 ?c2 (Nat.le_refl _) ?_)
    case c1 => rw [hzb]; omega
    case c2 => unfold maxLen; omega
    intro w2 hown hgr
    have hr2 : NumR w2 w1.heap.size n (fun _ => 0) := (NumR.of_owns hown (f := fun _ => 0) (fun j hj => by simpa using madeNum_get hj)).1
    have hB2 : Below w1.heap.size w1 w2 := (Below.refl _ _).grown hgr (by omega) (fun k e => by cases e)
    have c0 := hr2.cell (j := 0) (by omega)
    have f0 := hr2.frozen 0
    have hgl := hr2.lt
    have H3 : Hid (NumR (w2.setCell ⟨w1.heap.size, 0, none⟩ (.int .i64 1)) w1.heap.size n serX) := Lib.hid ((hr2.put (k := 0) 1).congr (fun j hj => by unfold serX; rfl))
    have HB3 : Hid (Below w.heap.size w (w2.setCell ⟨w1.heap.size, 0, none⟩ (.int .i64 1))) := Lib.hid ((below_step HB1.out hB2).setCell (p := ⟨w1.heap.size, 0, none⟩) (by simpa using hs1) _)
    clear hr2 hB2 hown hgr
    go_wp2_with fail
    go_loopw [5] (fun iv wr => ∃ (i : Nat) (u : Nat → Int), 1 ≤ i ∧ i ≤ n ∧ iv = .int .i64 i ∧ NumR wr w1.heap.size n u ∧ serInv s n (i - 1) = some u ∧ Below w.heap.size w wr) (fun iv _ => n - (intOf iv).toNat)
    case atStart => exact ⟨1, serX, Nat.le_refl _, hn, rfl, H3.out, rfl, HB3.out⟩
    case round =>
      obtain ⟨i, u, hi1, hi, rfl, hr, hinv, hB⟩ := hrel
      have HR := Lib.hid hr
      have HI := Lib.hid hinv
      have HB := Lib.hid hB
      have huo := serInv_ok hn hn2 _ _ hinv
      have HUO := Lib.hid huo.1
      have hub := (serOk_iff.1 huo.1).2.2.2
      by_cases hlt : i < n
      · have HC := Lib.hid (l7Compose_any n s u a (some ⟨w1.heap.size, 0, none⟩) ca n wr hn hn2 HSB.out hub (HL.out.below hB) hr.o)
        clear hr hinv hB huo hub
        go_wp2_with fail
        refine HC.out.mono ?_
        rintro e w3 ⟨hB3, ⟨hno, v, rfl⟩ | ⟨r, x3, c3, hyes, rfl, hx3, hr3⟩⟩
        · have HNO := Lib.hid (serInverse_none hlt (serInv_fail hi1 HI.out hno))
          have HB3 := Lib.hid (below_step HB.out hB3)
          clear hno hB3
          go_wp2_with fail
          go_ret2
          exact ⟨HB3.out.alloc HB3.out.size _, .inl ⟨by rw [HE.out]; exact HNO.out, _, _, rfl⟩⟩
        · have HYES := Lib.hid hyes
          have hr4 := HR.out.below hB3
          have HB3 := Lib.hid (below_step HB.out hB3)
          have hri := serComp_bound hyes hn i hlt
          have d3 := hr3.cell hlt
          have d4 := hr4.cell hlt
          have e4 := hr4.frozen i
          obtain ⟨v, hv⟩ : ∃ v, v = r i := ⟨_, rfl⟩
          rw [← hv] at d3 hri
          have HV := Lib.hid hv
          have hw1 : (0 : Int) - v = -v := by omega
          have HR5 : Hid (NumR (w3.setCell ⟨w1.heap.size, i, none⟩ (.int .i64 (-v))) w1.heap.size n (serPut u i (-v))) := Lib.hid (hr4.put (k := i) (-v))
          have HB5 : Hid (Below w.heap.size w (w3.setCell ⟨w1.heap.size, i, none⟩ (.int .i64 (-v)))) := Lib.hid (HB3.out.setCell (p := ⟨w1.heap.size, i, none⟩) (by simpa using hs1) _)
          have hgl4 := hr4.lt
          have d5 : (w3.setCell ⟨w1.heap.size, i, none⟩ (.int .i64 (-v))).cell? ⟨w1.heap.size, i, none⟩ = some (.int .i64 (-v)) := by
            have := HR5.out.cell hlt
            rw [serPut, if_pos rfl] at this; exact this
          obtain ⟨w5, hw5⟩ : ∃ w5, w5 = w3.setCell ⟨w1.heap.size, i, none⟩ (.int .i64 (-v)) := ⟨_, rfl⟩
          rw [← hw5] at HR5 HB5 d5
          have HW5 := Lib.hid hw5
          have HI6 := Lib.hid (l6In_any (-v) (-1000000) 1000000 w5)
          have HNX := serInv_next hi1 HI.out HYES.out
          rw [← hv] at HNX
          have HNX' := Lib.hid HNX
          clear hB3 hr3 hr4 hv hyes HNX hw5
          by_cases hvb : -1000000 ≤ -v ∧ -v ≤ 1000000
          · rw [decide_eq_true hvb] at HI6
            have HIN : Hid (serInv s n i = some (serPut u i (-v))) := Lib.hid (by rw [HNX'.out, if_pos hvb])
            go_upto_region 12 with fail
            rw [← HW5.out]
            go_wp2_with fail
            refine HI6.out.mono ?_
            rintro e w6 ⟨rfl, rfl⟩
            go_wp2_with fail
            exact ⟨⟨i + 1, serPut u i (-v), by omega, by omega, by go_num, HR5.out, by rw [Nat.add_sub_cancel]; exact HIN.out, HB5.out⟩, by simp [intOf]; omega⟩
          · rw [decide_eq_false hvb] at HI6
            have HIN : Hid (serInv s n i = none) := Lib.hid (by rw [HNX'.out, if_neg hvb])
            go_upto_region 12 with fail
            rw [← HW5.out]
            go_wp2_with fail
            refine HI6.out.mono ?_
            rintro e w6 ⟨rfl, rfl⟩
            go_wp2_with fail
            go_ret2
            exact ⟨HB5.out.alloc HB5.out.size _, .inl ⟨by rw [HE.out]; exact serInverse_none hlt HIN.out, _, _, rfl⟩⟩
      · have hin : i = n := by omega
        have HIN : Hid (serInverse n s = some u) := Lib.hid (by rw [serInverse, show n - 1 = i - 1 by omega]; exact HI.out)
        clear hin hr hinv hB huo hub
        go_wp2_with fail
        go_ret2
        exact ⟨HB.out, .inr ⟨u, _, _, by rw [HE.out]; exact HIN.out, rfl, HR.out.o⟩⟩

set_option maxRecDepth 100000 in
set_option maxHeartbeats 1000000 in
theorem sSeriesTurn_any (n : Nat) (f : Nat → Int) (a : Option Addr) (ca : Nat) (w : World) (hn : n ≤ 1048576) (hl : NumO w a n f) :
    Calls Try.prog 23 #[.slice a n ca] w (SerPostS n (ansTurn n f) w) := by
  have HT := Lib.hid (sSeriesValid_any n f a ca w hn hl)
  have HL := Lib.hid hl
  obtain ⟨bb, hbb⟩ : ∃ bb, serOk n f = bb := ⟨_, rfl⟩
  rw [hbb] at HT
  have HBB := Lib.hid hbb
  clear hl hbb
  go_enter Try.func23, Try.ntmps23
  cases bb
  · have HE : Hid (ansTurn n f = none) := Lib.hid (by rw [ansTurn, HBB.out]; rfl)
    go_wp2_with fail
    refine HT.out.mono ?_
    rintro e w1 ⟨rfl, hB1⟩
    have HB1 := Lib.hid hB1
    clear hB1
    go_wp2_with fail
    go_ret2
    exact ⟨HB1.out.alloc HB1.out.size _, .inl ⟨HE.out, _, _, rfl⟩⟩
  · have HE : Hid (ansTurn n f = some (serTurn f)) := Lib.hid (by rw [ansTurn, HBB.out]; rfl)
    have h1 := serOk_iff.1 HBB.out
    go_wp2_with fail
    refine HT.out.mono ?_
    rintro e w1 ⟨rfl, hB1⟩
    have HB1 := Lib.hid hB1
    have HP := Lib.hid (l7Turn_any n f a ca w1 (by omega) h1.2.1 h1.2.2.2 (HL.out.below hB1))
    clear h1 hB1
    go_wp2_with fail
    refine HP.out.mono ?_
    rintro e w2 ⟨hB2, x, c, rfl, hx, hc, hr⟩
    have HB2 := Lib.hid (below_step HB1.out hB2)
    have HR := Lib.hid hr
    clear hB2 hr
    go_wp2_with fail
    go_ret2
    exact ⟨HB2.out, .inr ⟨_, _, _, HE.out, rfl, HR.out.o⟩⟩

theorem ansDual_of {n : Nat} {f : Nat → Int} : ansDual n f = (ansInv n f).bind fun u => ansTurn n u := by
  unfold ansDual ansInv
  cases e : serOk n f with
  | false => rfl
  | true =>
    simp only [if_true]
    cases h : serInverse n f with
    | none => rfl
    | some u =>
      have h1 := serOk_iff.1 e
      have h2 := (serInv_ok h1.1 h1.2.1 _ _ h).1
      simp [ansTurn, h2]

set_option maxRecDepth 100000 in
set_option maxHeartbeats 1000000 in
theorem sSeriesDual_any (n : Nat) (f : Nat → Int) (a : Option Addr) (ca : Nat) (w : World) (hn : n ≤ 1048576) (hl : NumO w a n f) :
    Calls Try.prog 29 #[.slice a n ca] w (SerPostS n (ansDual n f) w) := by
  have HT := Lib.hid (sSeriesInverse_any n f a ca w hn hl)
  have HE : Hid (ansDual n f = (ansInv n f).bind fun u => ansTurn n u) := Lib.hid ansDual_of
  clear hl
  go_enter Try.func29, Try.ntmps29
  go_wp2_with fail
  refine HT.out.mono ?_
  rintro e w1 ⟨hB1, ⟨hno, v, c, rfl⟩ | ⟨u, v, c, hyes, rfl, hu⟩⟩
  · have HB1 := Lib.hid hB1
    have HNO := Lib.hid hno
    clear hB1 hno
    go_wp2_with fail
    go_ret2
    exact ⟨HB1.out.alloc HB1.out.size _, .inl ⟨by rw [HE.out, HNO.out]; rfl, _, _, rfl⟩⟩
  · have HB1 := Lib.hid hB1
    have HE2 : Hid (ansDual n f = ansTurn n u) := Lib.hid (by rw [HE.out, hyes]; rfl)
    have HP := Lib.hid (sSeriesTurn_any n u v c w1 hn hu)
    clear hB1 hyes hu
    go_wp2_with fail
    refine HP.out.mono ?_
    rintro e w2 ⟨hB2, ⟨hno, v2, c2, rfl⟩ | ⟨u2, v2, c2, hyes, rfl, hu2⟩⟩
    · have HB2 := Lib.hid (below_step HB1.out hB2)
      have HNO := Lib.hid hno
      clear hB2 hno
      go_wp2_with fail
      go_ret2
      exact ⟨HB2.out, .inl ⟨by rw [HE2.out]; exact HNO.out, _, _, rfl⟩⟩
    · have HB2 := Lib.hid (below_step HB1.out hB2)
      have HYES := Lib.hid hyes
      have HU := Lib.hid hu2
      clear hB2 hyes hu2
      go_wp2_with fail
      go_ret2
      exact ⟨HB2.out, .inr ⟨u2, _, _, by rw [HE2.out]; exact HYES.out, rfl, HU.out⟩⟩

theorem numTail {w : World} {x n : Nat} {f : Nat → Int} (h : NumR w x (n + 1) f) : NumO w (some ⟨x, 1, none⟩) n (fun j => f (j + 1)) := fun j hj => ⟨x, 1, rfl, by rw [Nat.add_comm 1 j]; exact h.cell (by omega)⟩

set_option maxRecDepth 100000 in
set_option maxHeartbeats 1000000 in
theorem sSeriesTimes_any (n m : Nat) (f g : Nat → Int) (a b : Option Addr) (ca cb : Nat) (w : World) (hn : n ≤ 1048576) (hm : m ≤ 1048576) (hl : NumO w a n f) (hk : NumO w b m g) :
    Calls Try.prog 19 #[.slice a n ca, .slice b m cb] w (SerPostS n (ansTimes n m f g) w) := by
  have HV := Lib.hid (sSeriesValid_any n f a ca w hn hl)
  have HL := Lib.hid hl
  have HK := Lib.hid hk
  obtain ⟨p, hp⟩ : ∃ p, serOk n f = p := ⟨_, rfl⟩
  obtain ⟨q, hq⟩ : ∃ q, serOk m g = q := ⟨_, rfl⟩
  rw [hp] at HV
  have HP := Lib.hid hp
  have HQ := Lib.hid hq
  clear hl hk hp hq
  go_enter Try.func19, Try.ntmps19
  cases p
  · have HE : Hid (ansTimes n m f g = none) := Lib.hid (by simp [ansTimes, serTwo, HP.out])
    go_wp2_with fail
    refine HV.out.mono ?_
    rintro e w1 ⟨rfl, hB1⟩
    have HB1 := Lib.hid hB1
    clear hB1
    go_wp2_with fail
    go_ret2
    exact ⟨HB1.out.alloc HB1.out.size _, .inl ⟨HE.out, _, _, rfl⟩⟩
  · go_wp2_with fail
    refine HV.out.mono ?_
    rintro e w1 ⟨rfl, hB1⟩
    have HB1 := Lib.hid hB1
    have HW := Lib.hid (sSeriesValid_any m g b cb w1 hm (HK.out.below hB1))
    rw [HQ.out] at HW
    clear hB1
    cases q
    · have HE : Hid (ansTimes n m f g = none) := Lib.hid (by simp [ansTimes, serTwo, HQ.out])
      go_wp2_with fail
      refine HW.out.mono ?_
      rintro e w2 ⟨rfl, hB2⟩
      have HB2 := Lib.hid (below_step HB1.out hB2)
      clear hB2
      go_wp2_with fail
      go_ret2
      exact ⟨HB2.out.alloc HB2.out.size _, .inl ⟨HE.out, _, _, rfl⟩⟩
    · by_cases hnm : n = m
      · subst hnm
        have HE : Hid (ansTimes n n f g = some (serMul f g)) := Lib.hid (by rw [ansTimes, if_pos (by simp [serTwo, HP.out, HQ.out])])
        have h1 := serOk_iff.1 HP.out
        have h2 := serOk_iff.1 HQ.out
        go_wp2_with fail
        refine HW.out.mono ?_
        rintro e w2 ⟨rfl, hB2⟩
        have HB2 := Lib.hid (below_step HB1.out hB2)
        have HT := Lib.hid (l7Times_any n (n + 1) f g a b ca cb ((n : Int) + 1) w2 (by omega) h1.2.1 (Nat.le_refl _) (fun j hj => by have := h1.2.2.2 j hj; omega) h2.2.2.2 ((HL.out.below HB1.out).below hB2) ((HK.out.below HB1.out).below hB2))
        have hn8 := h1.2.1
        have hn0 := h1.1
        clear hB2 h1 h2
        go_wp2_with fail
        refine HT.out.mono ?_
        rintro e w3 ⟨hB3, x, c, rfl, hx, hc, hr⟩
        have HB3 := Lib.hid (below_step HB2.out hB3)
        have HR := Lib.hid hr
        clear hB3 hr
        go_wp2_with fail
        go_ret2
        exact ⟨HB3.out, .inr ⟨_, _, _, HE.out, rfl, numTail HR.out⟩⟩
      · have HE : Hid (ansTimes n m f g = none) := Lib.hid (by simp [ansTimes, serTwo, hnm])
        have hd : ((n : Int) == (m : Int)) = false := by simpa using (show (n : Int) ≠ m by omega)
        have hd2 : ((n : Int) != (m : Int)) = true := by simpa using (show (n : Int) ≠ m by omega)
        go_wp2_with fail
        refine HW.out.mono ?_
        rintro e w2 ⟨rfl, hB2⟩
        have HB2 := Lib.hid (below_step HB1.out hB2)
        clear hB2
        go_wp2_with fail
        go_ret2
        exact ⟨HB2.out.alloc HB2.out.size _, .inl ⟨HE.out, _, _, rfl⟩⟩

set_option maxRecDepth 100000 in
set_option maxHeartbeats 1000000 in
theorem sSeriesCompose_any (n m : Nat) (f g : Nat → Int) (a b : Option Addr) (ca cb : Nat) (w : World) (hn : n ≤ 1048576) (hm : m ≤ 1048576) (hl : NumO w a n f) (hk : NumO w b m g) :
    Calls Try.prog 25 #[.slice a n ca, .slice b m cb] w (SerPostS n (ansComp n m f g) w) := by
  have HV := Lib.hid (sSeriesValid_any n f a ca w hn hl)
  have HL := Lib.hid hl
  have HK := Lib.hid hk
  obtain ⟨p, hp⟩ : ∃ p, serOk n f = p := ⟨_, rfl⟩
  obtain ⟨q, hq⟩ : ∃ q, serOk m g = q := ⟨_, rfl⟩
  rw [hp] at HV
  have HP := Lib.hid hp
  have HQ := Lib.hid hq
  clear hl hk hp hq
  go_enter Try.func25, Try.ntmps25
  cases p
  · have HE : Hid (ansComp n m f g = none) := Lib.hid (by simp [ansComp, serTwo, HP.out])
    go_wp2_with fail
    refine HV.out.mono ?_
    rintro e w1 ⟨rfl, hB1⟩
    have HB1 := Lib.hid hB1
    clear hB1
    go_wp2_with fail
    go_ret2
    exact ⟨HB1.out.alloc HB1.out.size _, .inl ⟨HE.out, _, _, rfl⟩⟩
  · go_wp2_with fail
    refine HV.out.mono ?_
    rintro e w1 ⟨rfl, hB1⟩
    have HB1 := Lib.hid hB1
    have HW := Lib.hid (sSeriesValid_any m g b cb w1 hm (HK.out.below hB1))
    rw [HQ.out] at HW
    clear hB1
    cases q
    · have HE : Hid (ansComp n m f g = none) := Lib.hid (by simp [ansComp, serTwo, HQ.out])
      go_wp2_with fail
      refine HW.out.mono ?_
      rintro e w2 ⟨rfl, hB2⟩
      have HB2 := Lib.hid (below_step HB1.out hB2)
      clear hB2
      go_wp2_with fail
      go_ret2
      exact ⟨HB2.out.alloc HB2.out.size _, .inl ⟨HE.out, _, _, rfl⟩⟩
    · by_cases hnm : n = m
      · subst hnm
        have HE : Hid (ansComp n n f g = (match serComp f g n with | none => none | some r => if serOk n r = true then some r else none)) := Lib.hid (by rw [ansComp, if_pos (by simp [serTwo, HP.out, HQ.out])]; rfl)
        have h1 := serOk_iff.1 HP.out
        have h2 := serOk_iff.1 HQ.out
        go_wp2_with fail
        refine HW.out.mono ?_
        rintro e w2 ⟨rfl, hB2⟩
        have HB2 := Lib.hid (below_step HB1.out hB2)
        have HT := Lib.hid (l7Compose_any n f g a b ca cb w2 h1.1 h1.2.1 h1.2.2.2 h2.2.2.2 ((HL.out.below HB1.out).below hB2) ((HK.out.below HB1.out).below hB2))
        clear hB2 h1 h2
        go_wp2_with fail
        refine HT.out.mono ?_
        rintro e w3 ⟨hB3, ⟨hno, v, rfl⟩ | ⟨r, x3, c3, hyes, rfl, hx3, hr3⟩⟩
        · have HB3 := Lib.hid (below_step HB2.out hB3)
          have HNO := Lib.hid hno
          clear hB3 hno
          go_wp2_with fail
          go_ret2
          exact ⟨HB3.out.alloc HB3.out.size _, .inl ⟨by rw [HE.out, HNO.out], _, _, rfl⟩⟩
        · have HB3 := Lib.hid (below_step HB2.out hB3)
          have HYES := Lib.hid hyes
          obtain ⟨bb, hbb⟩ : ∃ bb, serOk n r = bb := ⟨_, rfl⟩
          have HV3 := Lib.hid (sSeriesValid_any n r (some ⟨x3, 0, none⟩) c3 w3 hn hr3.o)
          rw [hbb] at HV3
          have HBB := Lib.hid hbb
          have HR3 := Lib.hid hr3
          clear hB3 hyes hbb hr3
          go_wp2_with fail
          refine HV3.out.mono ?_
          rintro e w4 ⟨rfl, hB4⟩
          have HB4 := Lib.hid (below_step HB3.out hB4)
          have HR4 := Lib.hid (HR3.out.below hB4)
          clear hB4
          cases bb
          · go_wp2_with fail
            go_ret2
            exact ⟨HB4.out.alloc HB4.out.size _, .inl ⟨by rw [HE.out, HYES.out]; simp [HBB.out], _, _, rfl⟩⟩
          · go_wp2_with fail
            go_ret2
            exact ⟨HB4.out, .inr ⟨r, _, _, by rw [HE.out, HYES.out]; simp [HBB.out], rfl, HR4.out.o⟩⟩
      · have HE : Hid (ansComp n m f g = none) := Lib.hid (by simp [ansComp, serTwo, hnm])
        have hd : ((n : Int) == (m : Int)) = false := by simpa using (show (n : Int) ≠ m by omega)
        have hd2 : ((n : Int) != (m : Int)) = true := by simpa using (show (n : Int) ≠ m by omega)
        go_wp2_with fail
        refine HW.out.mono ?_
        rintro e w2 ⟨rfl, hB2⟩
        have HB2 := Lib.hid (below_step HB1.out hB2)
        clear hB2
        go_wp2_with fail
        go_ret2
        exact ⟨HB2.out.alloc HB2.out.size _, .inl ⟨HE.out, _, _, rfl⟩⟩

end Go.Proofs.Ytnobpckmlhgeiaa
