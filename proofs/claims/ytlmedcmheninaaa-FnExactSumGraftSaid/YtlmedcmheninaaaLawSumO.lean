/- The law of SumOf. -/
import Derived.Test.YtlmedcmheninaaaKSumRJ
import Derived.Test.YtlmedcmheninaaaKSumOfS
import Derived.Test.YtlmedcmheninaaaTermM
namespace Go.Proofs.Ytlmedcmheninaaa
open Go.RowKit

theorem TermL.blk {w w' : World} {g : Nat} {ys : List (Int × ByteArray)} (h : TermL w g ys) (he : w'.heap[g]? = w.heap[g]?) : TermL w' g ys := fun j hj => by
  obtain ⟨hc, hd⟩ := h j hj
  exact ⟨by simp only [World.cell?, he]; exact hc, by simp only [World.cell?, he]; exact hd⟩

theorem ofList_len {xs : List (Int × ByteArray)} {qs : List Tm} (h : some qs = ofList xs) : qs.length ≤ 60 := by
  rw [ofList] at h
  split at h
  · cases h
  · rw [outOf] at h
    split at h
    · next hb =>
      have e := Option.some.inj h
      rw [← e] at hb
      by_cases h60 : 60 < qs.length
      · rw [bounded_long h60] at hb; cases hb
      · omega
    · cases h

/-- No terms at all: alike. -/
theorem eqTermS_none (a a' : Option Addr) (ca cb : Nat) (w : World) :
    Calls Try.prog 18 #[.slice a 0 ca, .slice a' 0 cb] w (Ans (.bool true) w) := by
  go_enter Try.func18, Try.ntmps18
  go_wp2_with fail
  go_rounds 1
  go_ret
  exact ⟨rfl, Below.refl _ _⟩
theorem markTermS_none (a : Option Addr) (cap m : Nat) (w : World) :
    Calls Try.prog 19 #[.slice a 0 cap, .int .i64 m] w (Ans (.int .i64 m) w) := by
  go_enter Try.func19, Try.ntmps19
  go_wp2_with fail
  go_rounds 1
  go_ret
  exact ⟨rfl, Below.refl _ _⟩
theorem heldTermS_none (a : Option Addr) (cap m : Nat) (w : World) :
    Calls Try.prog 20 #[.slice a 0 cap, .int .i64 m] w (Ans (.int .i64 m) w) := by
  go_enter Try.func20, Try.ntmps20
  go_wp2_with fail
  go_rounds 1
  go_ret
  exact ⟨rfl, Below.refl _ _⟩

set_option maxRecDepth 100000 in
set_option maxHeartbeats 1000000 in
theorem lawSumOf_any (ys : List (Int × ByteArray)) (a : Option Addr) (cap : Nat) (w : World) (hl : TermO w a ys) (hz : ∀ j (h : j < ys.length), (ys[j]).2.size ≤ 9223372036854775807) (_har : Coefs ys) (hn : ys.length ≤ 9223372036854775807) :
    Calls Try.prog 3 #[.slice a ys.length cap] w (Ans (.bool true) w) := by
  have HL := Lib.hid hl
  have HS0 := Lib.hid (szTermS_any ys a cap 1048576 w (by omega) (by omega) hn hz hl)
  clear hl hz
  go_enter Try.func3, Try.ntmps3
  go_wp2_with fail
  refine HS0.out.mono ?_
  rintro e w1 ⟨hB1, v, rfl, hv | ⟨hv, _, hn2, hz2⟩⟩
  · go_wp2_with fail
    go_ret
    exact ⟨rfl, hB1⟩
  · have HB1 := Lib.hid hB1
    obtain ⟨n, hnn⟩ : ∃ n, n = ys.length := ⟨_, rfl⟩
    have hn3 : n ≤ 1048576 := by omega
    have HT := Lib.hid (fun w hh => toTm_n (cap := cap) hnn hn2 w (a := a) hh)
    have HTB : Hid (∀ w, TermO w a ys → Calls Try.prog 16 #[.slice a n cap] w (CopyTermB ys n w)) := Lib.hid (fun w hh => by rw [hnn]; exact toTermS_blk ys a cap w hn2 hh)
    have HS := Lib.hid (fun g w hh => sSumOf_any ys n hnn g n w hn3 hz2 hh)
    have HI := Lib.hid (fun g w hh => iSumOf_any ys n hnn g n w hn3 hz2 hh)
    have HE := Lib.hid (fun g g' w h1 h2 => eqTermS_any ys n hnn g g' n n w hn3 h1 h2)
    obtain ⟨o, ho⟩ : ∃ o, o = ofList ys := ⟨_, rfl⟩
    rw [← ho] at HS HI
    rw [← hnn]
    clear HB1 hz2 hnn hn hn2
    cases o with
    | none =>
      go_wp2_with fail
      refine (HT.out w1 (HL.out.below hB1)).mono ?_
      rintro e w2 ⟨hB2, g, rfl, hg, hl2⟩
      have HB2 := Lib.hid (below_step hB1 hB2)
      have HL2 := Lib.hid hl2
      clear hB2 hl2 hB1
      go_wp2_with fail
      refine (HS.out g w2 HL2.out).mono ?_
      rintro e w3 ⟨hB3, ⟨_, a3, c3, rfl⟩ | ⟨_, _, _, _, h, _⟩⟩
      · have HB3 := Lib.hid (below_step HB2.out hB3)
        clear hB3
        go_wp2_with fail
        refine (HTB.out _ (HL.out.below HB3.out)).mono ?_
        rintro e w4 ⟨hB4, g2, rfl, hg2, hl4, cur2, hc2, hcs2⟩
        have HC4 := Lib.hid hc2
        have hg4 : g2 < w4.heap.size := (Array.getElem?_eq_some_iff.1 hc2).1
        have hg3 : w.heap.size ≤ g2 := Nat.le_trans HB3.out.size hg2
        clear hc2 hg2
        have HB4 := Lib.hid (below_step HB3.out hB4)
        have HL4 := Lib.hid hl4
        clear hB4 hl4
        go_wp2_with fail
        refine (HI.out g2 w4 HL4.out).mono ?_
        rintro e w5 ⟨hB5, ⟨_, a5, c5, rfl⟩ | ⟨_, _, _, _, h, _⟩⟩
        · have HB5 := Lib.hid (below_step HB4.out hB5)
          have HK5 := Lib.hid hB5
          have HL5 := Lib.hid (HL4.out.below hB5)
          clear hB5
          go_wp2_with fail
          refine (eqTermS_none _ _ _ _ _).mono ?_
          rintro e w6 ⟨rfl, hB6⟩
          have HB6 := Lib.hid (below_step HB5.out hB6)
          have HK6 := Lib.hid (below_step HK5.out hB6)
          have HL6 := Lib.hid (HL5.out.below hB6)
          clear hB6
          go_wp2_with fail
          refine (HT.out _ (HL.out.below HB6.out)).mono ?_
          rintro e w7 ⟨hB7, g7, rfl, hg7, hl7⟩
          have HB7 := Lib.hid (below_step HB6.out hB7)
          have HK7 := Lib.hid (below_step HK6.out hB7)
          have HL7 := Lib.hid hl7
          have HL8 := Lib.hid (HL6.out.below hB7)
          clear hB7 hl7
          go_wp2_with fail
          refine (HE.out g2 g7 w7 HL8.out HL7.out).mono ?_
          rintro e w8 ⟨rfl, hB8⟩
          have HB8 := Lib.hid (below_step HB7.out hB8)
          have HC8 := Lib.hid (((below_step HK7.out hB8).block g2 hg4).trans HC4.out)
          have HM := Lib.hid (markTermS_any n g2 n 1 cur2 w8 hn3 (by omega) (by omega) HC8.out hcs2)
          clear hB8
          go_wp2_with fail
          refine HM.out.mono ?_
          rintro e w9 ⟨rfl, hg9, _⟩
          have HB9 : Hid (Below w.heap.size w w9) := Lib.hid (HB8.out.grown hg9 HB8.out.size (fun k e => by simp at e; omega))
          clear hg9
          go_wp2_with fail
          refine (eqTermS_none _ _ _ _ _).mono ?_
          rintro e w10 ⟨rfl, hB10⟩
          have HB10 := Lib.hid (below_step HB9.out hB10)
          clear hB10
          go_wp2_with fail
          refine (markTermS_none _ _ _ _).mono ?_
          rintro e w11 ⟨rfl, hB11⟩
          have HB11 := Lib.hid (below_step HB10.out hB11)
          clear hB11
          go_wp2_with fail
          refine (heldTermS_none _ _ _ _).mono ?_
          rintro e w12 ⟨rfl, hB12⟩
          have HB12 := Lib.hid (below_step HB11.out hB12)
          clear hB12
          go_wp2_with fail
          refine (HT.out _ (HL.out.below HB12.out)).mono ?_
          rintro e w13 ⟨hB13, g13, rfl, hg13, hl13⟩
          have HB13 := Lib.hid (below_step HB12.out hB13)
          have HL13 := Lib.hid hl13
          clear hB13 hl13
          go_wp2_with fail
          refine (HI.out g13 w13 HL13.out).mono ?_
          rintro e w14 ⟨hB14, ⟨_, a14, c14, rfl⟩ | ⟨_, _, _, _, h, _⟩⟩
          · have HB14 := Lib.hid (below_step HB13.out hB14)
            clear hB14
            go_wp2_with fail
            refine (eqTermS_none _ _ _ _ _).mono ?_
            rintro e w15 ⟨rfl, hB15⟩
            have HB15 := Lib.hid (below_step HB14.out hB15)
            clear hB15
            go_wp2_with fail
            refine (heldTermS_none _ _ _ _).mono ?_
            rintro e w16 ⟨rfl, hB16⟩
            have HB16 := Lib.hid (below_step HB15.out hB16)
            clear hB16
            go_wp2_with fail
            go_ret
            exact ⟨rfl, HB16.out⟩
          · exact absurd h (by simp)
        · exact absurd h (by simp)
      · exact absurd h (by simp)
    | some qs =>
      obtain ⟨N, hNq⟩ : ∃ N, qs.length = N := ⟨_, rfl⟩
      have HNQ := Lib.hid hNq
      have hN : N ≤ 60 := by rw [← hNq]; exact ofList_len ho
      have HQ := Lib.hid (fun g g' ca cb w h1 h2 => eqTermS_any (txtTm qs) N (by rw [← hNq]; simp [txtTm]) g g' ca cb w (by omega) h1 h2)
      go_wp2_with fail
      refine (HT.out w1 (HL.out.below hB1)).mono ?_
      rintro e w2 ⟨hB2, g, rfl, hg, hl2⟩
      have HB2 := Lib.hid (below_step hB1 hB2)
      have HL2 := Lib.hid hl2
      clear hB2 hl2 hB1
      go_wp2_with fail
      refine (HS.out g w2 HL2.out).mono ?_
      rintro e w3 ⟨hB3, ⟨h, _⟩ | ⟨qs', g3, c3, cur3, hqe, rfl, _, _, _, hl3⟩⟩
      · exact absurd h (by simp)
      · cases hqe
        rw [HNQ.out]
        have HB3 := Lib.hid (below_step HB2.out hB3)
        have HW3 := Lib.hid hl3
        clear hl3
        clear hB3
        go_wp2_with fail
        refine (HTB.out _ (HL.out.below HB3.out)).mono ?_
        rintro e w4 ⟨hB4, g2, rfl, hg2, hl4, cur2, hc2, hcs2⟩
        have HC4 := Lib.hid hc2
        have HJ4 := Lib.hid hB4
        have hg33 : w3.heap.size ≤ g2 := hg2
        have hg4 : g2 < w4.heap.size := (Array.getElem?_eq_some_iff.1 hc2).1
        have hg3 : w.heap.size ≤ g2 := Nat.le_trans HB3.out.size hg2
        clear hc2 hg2
        have HB4 := Lib.hid (below_step HB3.out hB4)
        have HL4 := Lib.hid hl4
        clear hB4 hl4
        go_wp2_with fail
        refine (HI.out g2 w4 HL4.out).mono ?_
        rintro e w5 ⟨hB5, ⟨h, _⟩ | ⟨qs', g5, c5, cur5, hqe, rfl, hg5, hc5, hcs5, hl5⟩⟩
        · exact absurd h (by simp)
        · cases hqe
          rw [HNQ.out]
          have HB5 := Lib.hid (below_step HB4.out hB5)
          have HG5 := Lib.hid hl5
          have HC5 := Lib.hid hc5
          have hg5s : g5 < w5.heap.size := (Array.getElem?_eq_some_iff.1 hc5).1
          have hg25 : g2 ≠ g5 := by omega
          have hs34 : w3.heap.size ≤ w4.heap.size := HJ4.out.size
          have HW5 := Lib.hid ((HW3.out.below HJ4.out).below hB5)
          have HJ5 := Lib.hid (below_step HJ4.out hB5)
          have hcs6 : N * 2 ≤ cur5.size := by rw [← HNQ.out]; exact hcs5
          clear hl5 hc5
          have HK5 := Lib.hid hB5
          have HL5 := Lib.hid (HL4.out.below hB5)
          clear hB5
          go_wp2_with fail
          refine (HQ.out g5 g3 _ _ w5 HG5.out HW5.out).mono ?_
          rintro e w6 ⟨rfl, hB6⟩
          have HX6 := Lib.hid hB6
          have HJ6 := Lib.hid (below_step HJ5.out hB6)
          have HB6 := Lib.hid (below_step HB5.out hB6)
          have HK6 := Lib.hid (below_step HK5.out hB6)
          have HL6 := Lib.hid (HL5.out.below hB6)
          clear hB6
          go_wp2_with fail
          refine (HT.out _ (HL.out.below HB6.out)).mono ?_
          rintro e w7 ⟨hB7, g7, rfl, hg7, hl7⟩
          have HX7 := Lib.hid (below_step HX6.out hB7)
          have HJ7 := Lib.hid (below_step HJ6.out hB7)
          have HB7 := Lib.hid (below_step HB6.out hB7)
          have HK7 := Lib.hid (below_step HK6.out hB7)
          have HL7 := Lib.hid hl7
          have HL8 := Lib.hid (HL6.out.below hB7)
          clear hB7 hl7
          go_wp2_with fail
          refine (HE.out g2 g7 w7 HL8.out HL7.out).mono ?_
          rintro e w8 ⟨rfl, hB8⟩
          have HX8 := Lib.hid (below_step HX7.out hB8)
          have HJ8 := Lib.hid (below_step HJ7.out hB8)
          have HB8 := Lib.hid (below_step HB7.out hB8)
          have HC8 := Lib.hid (((below_step HK7.out hB8).block g2 hg4).trans HC4.out)
          have HM := Lib.hid (markTermS_any n g2 n 1 cur2 w8 hn3 (by omega) (by omega) HC8.out hcs2)
          clear hB8
          go_wp2_with fail
          refine HM.out.mono ?_
          rintro e w9 ⟨rfl, hg9, _⟩
          have HB9 : Hid (Below w.heap.size w w9) := Lib.hid (HB8.out.grown hg9 HB8.out.size (fun k e => by simp at e; omega))
          have HJ9 : Hid (Below w3.heap.size w3 w9) := Lib.hid (HJ8.out.grown hg9 HJ8.out.size (fun k e => by simp at e; omega))
          have h85 : w8.heap[g5]? = w5.heap[g5]? := HX8.out.block g5 hg5s
          have hg58 : g5 < w8.heap.size := Nat.lt_of_lt_of_le hg5s HX8.out.size
          have h95 : w9.heap[g5]? = w5.heap[g5]? := (hg9.block g5 hg58 (by simp; omega)).trans h85
          have HG9 := Lib.hid (HG5.out.blk h95)
          have HC9 := Lib.hid (h95.trans HC5.out)
          have HW9 := Lib.hid (HW3.out.below HJ9.out)
          have hg59 : g5 < w9.heap.size := (Array.getElem?_eq_some_iff.1 HC9.out).1
          clear hg9 h95 h85
          go_wp2_with fail
          refine (HQ.out g5 g3 _ _ w9 HG9.out HW9.out).mono ?_
          rintro e w10 ⟨rfl, hB10⟩
          have HJ10 := Lib.hid (below_step HJ9.out hB10)
          have HM5 := Lib.hid (markTermS_any N g5 c5 1 cur5 w10 (by omega) (by omega) (by omega) ((hB10.block g5 hg59).trans HC9.out) hcs6)
          have HB10 := Lib.hid (below_step HB9.out hB10)
          clear hB10
          go_wp2_with fail
          refine HM5.out.mono ?_
          rintro e w11 ⟨rfl, hg11, hl11⟩
          have hw4g : w4.heap.size ≤ g5 := hg5
          have HJ11 : Hid (Below w3.heap.size w3 w11) := Lib.hid (HJ10.out.grown hg11 HJ10.out.size (fun k e => by simp at e; omega))
          have HB11 : Hid (Below w.heap.size w w11) := Lib.hid (HB10.out.grown hg11 HB10.out.size (fun k e => by have := HB4.out.size; simp at e; omega))
          have HL11 := Lib.hid hl11
          clear hg11 hl11
          go_wp2_with fail
          refine (heldTermS_any N g5 c5 1 w11 (by omega) (by omega) (by omega) HL11.out).mono ?_
          rintro e w12 ⟨rfl, hB12⟩
          have HJ12 := Lib.hid (below_step HJ11.out hB12)
          have HL12 := Lib.hid (HL11.out.below hB12)
          have HB12 := Lib.hid (below_step HB11.out hB12)
          clear hB12
          go_wp2_with fail
          refine (HT.out _ (HL.out.below HB12.out)).mono ?_
          rintro e w13 ⟨hB13, g13, rfl, hg13, hl13⟩
          have HJ13 := Lib.hid (below_step HJ12.out hB13)
          have HL13b := Lib.hid (HL12.out.below hB13)
          have HB13 := Lib.hid (below_step HB12.out hB13)
          have HL13 := Lib.hid hl13
          clear hB13 hl13
          go_wp2_with fail
          refine (HI.out g13 w13 HL13.out).mono ?_
          rintro e w14 ⟨hB14, ⟨h, _⟩ | ⟨qs', g14, c14, cur14, hqe, rfl, _, _, _, hl14⟩⟩
          · exact absurd h (by simp)
          · cases hqe
            rw [HNQ.out]
            have HG14 := Lib.hid hl14
            have HW14 := Lib.hid (HW3.out.below (below_step HJ13.out hB14))
            have HL14 := Lib.hid (HL13b.out.below hB14)
            clear hl14
            have HB14 := Lib.hid (below_step HB13.out hB14)
            clear hB14
            go_wp2_with fail
            refine (HQ.out g14 g3 _ _ w14 HG14.out HW14.out).mono ?_
            rintro e w15 ⟨rfl, hB15⟩
            have HL15 := Lib.hid (HL14.out.below hB15)
            have HB15 := Lib.hid (below_step HB14.out hB15)
            clear hB15
            go_wp2_with fail
            refine (heldTermS_any N g5 c5 1 w15 (by omega) (by omega) (by omega) HL15.out).mono ?_
            rintro e w16 ⟨rfl, hB16⟩
            have HB16 := Lib.hid (below_step HB15.out hB16)
            clear hB16
            go_wp2_with fail
            go_ret
            exact ⟨rfl, HB16.out⟩
end Go.Proofs.Ytlmedcmheninaaa
