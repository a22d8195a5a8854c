/- The law of SumAdd: two lists of terms. -/
import Derived.Test.YtflmdknienjlmaaAddJ
import Derived.Test.YtflmdknienjlmaaLawSumO
namespace Go.Proofs.Ytflmdknienjlmaa
open Go.RowKit

set_option maxRecDepth 100000 in
set_option maxHeartbeats 2000000 in
theorem lawSumAdd_any (ys : List (Int × ByteArray)) (a : Option Addr) (cap : Nat) (zs : List (Int × ByteArray)) (a' : Option Addr) (cap' : Nat) (w : World) (hl : TermO w a ys) (hz : ∀ j (h : j < ys.length), (ys[j]).2.size ≤ 9223372036854775807) (_har : Coefs ys) (hn : ys.length ≤ 9223372036854775807)
    (hl' : TermO w a' zs) (hz' : ∀ j (h : j < zs.length), (zs[j]).2.size ≤ 9223372036854775807) (_har' : Coefs zs) (hn' : zs.length ≤ 9223372036854775807) :
    Calls Try.prog 3 #[.slice a ys.length cap, .slice a' zs.length cap'] w (Ans (.bool true) w) := by
  have HL := Lib.hid hl
  have HL' := Lib.hid hl'
  have HS0 := Lib.hid (szTermS_any ys a cap 1048576 w (by omega) (by omega) hn hz hl)
  have HS1 := Lib.hid (fun (l0 : Int) (h0 : 0 ≤ l0) (h1 : l0 ≤ 1048576) (W : World) (hb : Below w.heap.size w W) => szTermS_any zs a' cap' l0 W h0 h1 hn' hz' (hl'.below hb))
  clear hl hz hl' hz'
  go_enter Try.func3, Try.ntmps3
  go_wp2_with fail
  refine HS0.out.mono ?_
  rintro e w1 ⟨hB1, v, rfl, hv | ⟨hv, hv2, hn2, hz2⟩⟩
  · go_wp2_with fail
    go_ret
    exact ⟨rfl, hB1⟩
  have HBa := Lib.hid hB1
  clear hB1
  go_wp2_with fail
  refine (HS1.out v (by omega) (by omega) w1 HBa.out).mono ?_
  rintro e w2 ⟨hB2, v', rfl, hv' | ⟨hv', hv2', hn2', hz2'⟩⟩
  · have HBb := Lib.hid (below_step HBa.out hB2)
    go_wp2_with fail
    go_ret
    exact ⟨rfl, HBb.out⟩
  · have HB2 := Lib.hid (below_step HBa.out hB2)
    obtain ⟨n, hnn⟩ : ∃ n, n = ys.length := ⟨_, rfl⟩
    obtain ⟨n', hnn'⟩ : ∃ n', n' = zs.length := ⟨_, rfl⟩
    have hn3 : n ≤ 1048576 := by omega
    have hn3' : n' ≤ 1048576 := by omega
    have HT := Lib.hid (fun w hh => toTm_n (cap := cap) hnn hn2 w (a := a) hh)
    have HT' := Lib.hid (fun w hh => toTm_n (cap := cap') hnn' hn2' w (a := a') hh)
    have HTB : Hid (∀ w, TermO w a ys → Calls Try.prog 13 #[.slice a n cap] w (CopyTermB ys n w)) := Lib.hid (fun w hh => by rw [hnn]; exact toTermS_blk ys a cap w hn2 hh)
    have HT'B : Hid (∀ w, TermO w a' zs → Calls Try.prog 13 #[.slice a' n' cap'] w (CopyTermB zs n' w)) := Lib.hid (fun w hh => by rw [hnn']; exact toTermS_blk zs a' cap' w hn2' hh)
    have HSa := Lib.hid (fun g g' w h1 h2 => (sSumAdd_any ys zs n n' hnn hnn' g n g' n' w hn3 hn3' hz2 hz2' h1 h2).mono (fun _ _ h => TermsPost.any h))
    have HIa := Lib.hid (fun g g' w h1 h2 => iSumAdd_any ys zs n n' hnn hnn' g n g' n' w hn3 hn3' hz2 hz2' h1 h2)
    have HE := Lib.hid (fun g g' w h1 h2 => eqTermS_any ys n hnn g g' n n w hn3 h1 h2)
    have HE' := Lib.hid (fun g g' w h1 h2 => eqTermS_any zs n' hnn' g g' n' n' w hn3' h1 h2)
    obtain ⟨o, ho⟩ : ∃ o, o = addOf ys zs := ⟨_, rfl⟩
    rw [← ho] at HSa HIa
    rw [← hnn, ← hnn']
    have hs2 := hB2.size
    have hsw := HB2.out.size
    clear hB2 hz2 hz2' hnn hnn' hn hn' hn2 hn2' hv2 hv2'
    by_cases he : o = none ∨ o = some []
    · obtain ⟨bb, HS, HI⟩ : ∃ bb : Bool, Hid (∀ g g' w, TermL w g ys → TermL w g' zs → Calls Try.prog 12 #[.slice (some ⟨g, 0, none⟩) n n, .slice (some ⟨g', 0, none⟩) n' n'] w (fun e w' => Below w.heap.size w w' ∧ ∃ a c, e = .returned (.tuple #[.slice a 0 c, .bool bb]))) ∧
          Hid (∀ g g' w, TermL w g ys → TermL w g' zs → Calls Try.prog 14 #[.slice (some ⟨g, 0, none⟩) n n, .slice (some ⟨g', 0, none⟩) n' n'] w (fun e w' => Below w.heap.size w w' ∧ ∃ a c, e = .returned (.tuple #[.slice a 0 c, .bool bb]))) := by
        refine ⟨o.isSome, Lib.hid (fun g g' w h1 h2 => (HSa.out g g' w h1 h2).mono (fun e w' h => h.empty he)), Lib.hid (fun g g' w h1 h2 => (HIa.out g g' w h1 h2).mono (fun e w' h => h.empty he))⟩
      clear HSa HIa ho he
      cases bb
      all_goals
        go_wp2_with fail
        refine (HT.out w2 (HL.out.below HB2.out)).mono ?_
        rintro e w3 ⟨hB, ga, rfl, hgn, hl⟩
        have hsz3 : w2.heap.size ≤ w3.heap.size := hB.size
        have HB3 := Lib.hid (below_step HB2.out hB)
        clear hB
        have hgega : w2.heap.size ≤ ga := hgn
        have Tga_3 := Lib.hid hl
        clear hl hgn
        go_wp2_with fail
        refine (HT'.out w3 (HL'.out.below HB3.out)).mono ?_
        rintro e w4 ⟨hB, gb, rfl, hgn, hl⟩
        have hsz4 : w3.heap.size ≤ w4.heap.size := hB.size
        have HB4 := Lib.hid (below_step HB3.out hB)
        have Tga_4 := Lib.hid (Tga_3.out.below hB)
        clear hB
        have hgegb : w3.heap.size ≤ gb := hgn
        have Tgb_4 := Lib.hid hl
        clear hl hgn
        go_wp2_with fail
        refine (HS.out ga gb w4 Tga_4.out Tgb_4.out).mono ?_
        rintro e w5 ⟨hB, a5, c5, rfl⟩
        have hsz5 : w4.heap.size ≤ w5.heap.size := hB.size
        have HB5 := Lib.hid (below_step HB4.out hB)
        have Tga_5 := Lib.hid (Tga_4.out.below hB)
        have Tgb_5 := Lib.hid (Tgb_4.out.below hB)
        clear hB
        go_wp2_with fail
        refine (HTB.out w5 (HL.out.below HB5.out)).mono ?_
        rintro e w6 ⟨hB, gx, rfl, hgn, hl, curgx, hc, hcsgx⟩
        have hsz6 : w5.heap.size ≤ w6.heap.size := hB.size
        have HB6 := Lib.hid (below_step HB5.out hB)
        clear hB
        have hgegx : w5.heap.size ≤ gx := hgn
        have Tgx_6 := Lib.hid hl
        have hltgx : gx < w6.heap.size := (Array.getElem?_eq_some_iff.1 hc).1
        have Cgx_6 := Lib.hid hc
        clear hl hc hgn
        go_wp2_with fail
        refine (HT'B.out w6 (HL'.out.below HB6.out)).mono ?_
        rintro e w7 ⟨hB, gy, rfl, hgn, hl, curgy, hc, hcsgy⟩
        have hsz7 : w6.heap.size ≤ w7.heap.size := hB.size
        have HB7 := Lib.hid (below_step HB6.out hB)
        have Tgx_7 := Lib.hid (Tgx_6.out.below hB)
        have Cgx_7 := Lib.hid ((hB.block gx (by omega)).trans Cgx_6.out)
        clear hB
        have hgegy : w6.heap.size ≤ gy := hgn
        have Tgy_7 := Lib.hid hl
        have hltgy : gy < w7.heap.size := (Array.getElem?_eq_some_iff.1 hc).1
        have Cgy_7 := Lib.hid hc
        clear hl hc hgn
        go_wp2_with fail
        refine (HI.out gx gy w7 Tgx_7.out Tgy_7.out).mono ?_
        rintro e w8 ⟨hB, a8, c8, rfl⟩
        have hsz8 : w7.heap.size ≤ w8.heap.size := hB.size
        have HB8 := Lib.hid (below_step HB7.out hB)
        have Tgx_8 := Lib.hid (Tgx_7.out.below hB)
        have Cgx_8 := Lib.hid ((hB.block gx (by omega)).trans Cgx_7.out)
        have Tgy_8 := Lib.hid (Tgy_7.out.below hB)
        have Cgy_8 := Lib.hid ((hB.block gy (by omega)).trans Cgy_7.out)
        clear hB
        go_wp2_with fail
        refine (eqTermS_none _ _ _ _ w8).mono ?_
        rintro e w9 ⟨rfl, hB⟩
        have hsz9 : w8.heap.size ≤ w9.heap.size := hB.size
        have HB9 := Lib.hid (below_step HB8.out hB)
        have Tgx_9 := Lib.hid (Tgx_8.out.below hB)
        have Cgx_9 := Lib.hid ((hB.block gx (by omega)).trans Cgx_8.out)
        have Tgy_9 := Lib.hid (Tgy_8.out.below hB)
        have Cgy_9 := Lib.hid ((hB.block gy (by omega)).trans Cgy_8.out)
        clear hB
        go_wp2_with fail
        refine (HT.out w9 (HL.out.below HB9.out)).mono ?_
        rintro e w10 ⟨hB, gc, rfl, hgn, hl⟩
        have hsz10 : w9.heap.size ≤ w10.heap.size := hB.size
        have HB10 := Lib.hid (below_step HB9.out hB)
        have Tgx_10 := Lib.hid (Tgx_9.out.below hB)
        have Cgx_10 := Lib.hid ((hB.block gx (by omega)).trans Cgx_9.out)
        have Tgy_10 := Lib.hid (Tgy_9.out.below hB)
        have Cgy_10 := Lib.hid ((hB.block gy (by omega)).trans Cgy_9.out)
        clear hB
        have hgegc : w9.heap.size ≤ gc := hgn
        have Tgc_10 := Lib.hid hl
        clear hl hgn
        go_wp2_with fail
        refine (HE.out gx gc w10 Tgx_10.out Tgc_10.out).mono ?_
        rintro e w11 ⟨rfl, hB⟩
        have hsz11 : w10.heap.size ≤ w11.heap.size := hB.size
        have HB11 := Lib.hid (below_step HB10.out hB)
        have Tgx_11 := Lib.hid (Tgx_10.out.below hB)
        have Cgx_11 := Lib.hid ((hB.block gx (by omega)).trans Cgx_10.out)
        have Tgy_11 := Lib.hid (Tgy_10.out.below hB)
        have Cgy_11 := Lib.hid ((hB.block gy (by omega)).trans Cgy_10.out)
        have Tgc_11 := Lib.hid (Tgc_10.out.below hB)
        clear hB
        go_wp2_with fail
        refine (HT'.out w11 (HL'.out.below HB11.out)).mono ?_
        rintro e w12 ⟨hB, gd, rfl, hgn, hl⟩
        have hsz12 : w11.heap.size ≤ w12.heap.size := hB.size
        have HB12 := Lib.hid (below_step HB11.out hB)
        have Tgx_12 := Lib.hid (Tgx_11.out.below hB)
        have Cgx_12 := Lib.hid ((hB.block gx (by omega)).trans Cgx_11.out)
        have Tgy_12 := Lib.hid (Tgy_11.out.below hB)
        have Cgy_12 := Lib.hid ((hB.block gy (by omega)).trans Cgy_11.out)
        clear hB
        have hgegd : w11.heap.size ≤ gd := hgn
        have Tgd_12 := Lib.hid hl
        clear hl hgn
        go_wp2_with fail
        refine (HE'.out gy gd w12 Tgy_12.out Tgd_12.out).mono ?_
        rintro e w13 ⟨rfl, hB⟩
        have hsz13 : w12.heap.size ≤ w13.heap.size := hB.size
        have HB13 := Lib.hid (below_step HB12.out hB)
        have Tgx_13 := Lib.hid (Tgx_12.out.below hB)
        have Cgx_13 := Lib.hid ((hB.block gx (by omega)).trans Cgx_12.out)
        have Tgy_13 := Lib.hid (Tgy_12.out.below hB)
        have Cgy_13 := Lib.hid ((hB.block gy (by omega)).trans Cgy_12.out)
        have Tgd_13 := Lib.hid (Tgd_12.out.below hB)
        clear hB
        go_wp2_with fail
        refine (markTermS_any n gx n 1 curgx w13 hn3 (by omega) (by omega) Cgx_13.out hcsgx).mono ?_
        rintro e w14 ⟨rfl, hg, _⟩
        have hsz14 : w13.heap.size ≤ w14.heap.size := hg.size
        have HB14 : Hid (Below w.heap.size w w14) := Lib.hid (HB13.out.grown hg HB13.out.size (fun b e => by simp at e; omega))
        have Cgy_14 := Lib.hid ((hg.block gy (by omega) (by simp; omega)).trans Cgy_13.out)
        clear hg
        go_wp2_with fail
        refine (markTermS_any n' gy n' (1 + 2 * n) curgy w14 hn3' (by omega) (by omega) Cgy_14.out hcsgy).mono ?_
        rintro e w15 ⟨rfl, hg, _⟩
        have hsz15 : w14.heap.size ≤ w15.heap.size := hg.size
        have HB15 : Hid (Below w.heap.size w w15) := Lib.hid (HB14.out.grown hg HB14.out.size (fun b e => by simp at e; omega))
        clear hg
        go_wp2_with fail
        refine (eqTermS_none _ _ _ _ w15).mono ?_
        rintro e w16 ⟨rfl, hB⟩
        have hsz16 : w15.heap.size ≤ w16.heap.size := hB.size
        have HB16 := Lib.hid (below_step HB15.out hB)
        clear hB
        go_wp2_with fail
        refine (markTermS_none _ _ _ w16).mono ?_
        rintro e w17 ⟨rfl, hB⟩
        have hsz17 : w16.heap.size ≤ w17.heap.size := hB.size
        have HB17 := Lib.hid (below_step HB16.out hB)
        clear hB
        go_wp2_with fail
        refine (heldTermS_none _ _ _ w17).mono ?_
        rintro e w18 ⟨rfl, hB⟩
        have hsz18 : w17.heap.size ≤ w18.heap.size := hB.size
        have HB18 := Lib.hid (below_step HB17.out hB)
        clear hB
        go_wp2_with fail
        refine (HT.out w18 (HL.out.below HB18.out)).mono ?_
        rintro e w19 ⟨hB, ge, rfl, hgn, hl⟩
        have hsz19 : w18.heap.size ≤ w19.heap.size := hB.size
        have HB19 := Lib.hid (below_step HB18.out hB)
        clear hB
        have hgege : w18.heap.size ≤ ge := hgn
        have Tge_19 := Lib.hid hl
        clear hl hgn
        go_wp2_with fail
        refine (HT'.out w19 (HL'.out.below HB19.out)).mono ?_
        rintro e w20 ⟨hB, gf, rfl, hgn, hl⟩
        have hsz20 : w19.heap.size ≤ w20.heap.size := hB.size
        have HB20 := Lib.hid (below_step HB19.out hB)
        have Tge_20 := Lib.hid (Tge_19.out.below hB)
        clear hB
        have hgegf : w19.heap.size ≤ gf := hgn
        have Tgf_20 := Lib.hid hl
        clear hl hgn
        go_wp2_with fail
        refine (HI.out ge gf w20 Tge_20.out Tgf_20.out).mono ?_
        rintro e w21 ⟨hB, a9, c9, rfl⟩
        have hsz21 : w20.heap.size ≤ w21.heap.size := hB.size
        have HB21 := Lib.hid (below_step HB20.out hB)
        have Tge_21 := Lib.hid (Tge_20.out.below hB)
        have Tgf_21 := Lib.hid (Tgf_20.out.below hB)
        clear hB
        go_wp2_with fail
        refine (eqTermS_none _ _ _ _ w21).mono ?_
        rintro e w22 ⟨rfl, hB⟩
        have hsz22 : w21.heap.size ≤ w22.heap.size := hB.size
        have HB22 := Lib.hid (below_step HB21.out hB)
        have Tge_22 := Lib.hid (Tge_21.out.below hB)
        have Tgf_22 := Lib.hid (Tgf_21.out.below hB)
        clear hB
        go_wp2_with fail
        refine (heldTermS_none _ _ _ w22).mono ?_
        rintro e w23 ⟨rfl, hB⟩
        have hsz23 : w22.heap.size ≤ w23.heap.size := hB.size
        have HB23 := Lib.hid (below_step HB22.out hB)
        have Tge_23 := Lib.hid (Tge_22.out.below hB)
        have Tgf_23 := Lib.hid (Tgf_22.out.below hB)
        clear hB
        go_wp2_with fail
        go_ret
        exact ⟨rfl, HB23.out⟩
    · obtain ⟨qs, rfl⟩ : ∃ qs, o = some qs := by
        cases o with
        | none => exact absurd (.inl rfl) he
        | some qs => exact ⟨qs, rfl⟩
      obtain ⟨N, hNq⟩ : ∃ N, N = qs.length := ⟨_, rfl⟩
      have hN : N ≤ 60 := by rw [hNq]; exact addOf_len ho
      have HQ := Lib.hid (fun g g' ca cb w h1 h2 => eqTermS_any (txtTm qs) N (by rw [hNq]; simp [txtTm]) g g' ca cb w (by omega) h1 h2)
      have hqne : qs ≠ [] := fun e => he (.inr (by rw [e]))
      have HS := Lib.hid (fun g g' w h1 h2 => (HSa.out g g' w h1 h2).mono (fun e w' h => h.full hqne hNq))
      have HI := Lib.hid (fun g g' w h1 h2 => (HIa.out g g' w h1 h2).mono (fun e w' h => h.full hqne hNq))
      clear HSa HIa ho he hqne hNq
      go_wp2_with fail
      refine (HT.out w2 (HL.out.below HB2.out)).mono ?_
      rintro e w3 ⟨hB, ga, rfl, hgn, hl⟩
      have hsz3 : w2.heap.size ≤ w3.heap.size := hB.size
      have HB3 := Lib.hid (below_step HB2.out hB)
      clear hB
      have hgega : w2.heap.size ≤ ga := hgn
      have Tga_3 := Lib.hid hl
      clear hl hgn
      go_wp2_with fail
      refine (HT'.out w3 (HL'.out.below HB3.out)).mono ?_
      rintro e w4 ⟨hB, gb, rfl, hgn, hl⟩
      have hsz4 : w3.heap.size ≤ w4.heap.size := hB.size
      have HB4 := Lib.hid (below_step HB3.out hB)
      have Tga_4 := Lib.hid (Tga_3.out.below hB)
      clear hB
      have hgegb : w3.heap.size ≤ gb := hgn
      have Tgb_4 := Lib.hid hl
      clear hl hgn
      go_wp2_with fail
      refine (HS.out ga gb w4 Tga_4.out Tgb_4.out).mono ?_
      rintro e w5 ⟨hB, gs, cs, curs, rfl, hgn, hc, hcs, hl⟩
      have hsz5 : w4.heap.size ≤ w5.heap.size := hB.size
      have HB5 := Lib.hid (below_step HB4.out hB)
      have Tga_5 := Lib.hid (Tga_4.out.below hB)
      have Tgb_5 := Lib.hid (Tgb_4.out.below hB)
      clear hB
      have R_5 := Lib.hid hl
      have hlts : gs < w5.heap.size := (Array.getElem?_eq_some_iff.1 hc).1
      clear hl hc hgn hcs
      go_wp2_with fail
      refine (HTB.out w5 (HL.out.below HB5.out)).mono ?_
      rintro e w6 ⟨hB, gx, rfl, hgn, hl, curgx, hc, hcsgx⟩
      have hsz6 : w5.heap.size ≤ w6.heap.size := hB.size
      have HB6 := Lib.hid (below_step HB5.out hB)
      have R_6 := Lib.hid (R_5.out.below hB)
      clear hB
      have hgegx : w5.heap.size ≤ gx := hgn
      have Tgx_6 := Lib.hid hl
      have hltgx : gx < w6.heap.size := (Array.getElem?_eq_some_iff.1 hc).1
      have Cgx_6 := Lib.hid hc
      clear hl hc hgn
      go_wp2_with fail
      refine (HT'B.out w6 (HL'.out.below HB6.out)).mono ?_
      rintro e w7 ⟨hB, gy, rfl, hgn, hl, curgy, hc, hcsgy⟩
      have hsz7 : w6.heap.size ≤ w7.heap.size := hB.size
      have HB7 := Lib.hid (below_step HB6.out hB)
      have R_7 := Lib.hid (R_6.out.below hB)
      have Tgx_7 := Lib.hid (Tgx_6.out.below hB)
      have Cgx_7 := Lib.hid ((hB.block gx (by omega)).trans Cgx_6.out)
      clear hB
      have hgegy : w6.heap.size ≤ gy := hgn
      have Tgy_7 := Lib.hid hl
      have hltgy : gy < w7.heap.size := (Array.getElem?_eq_some_iff.1 hc).1
      have Cgy_7 := Lib.hid hc
      clear hl hc hgn
      go_wp2_with fail
      refine (HI.out gx gy w7 Tgx_7.out Tgy_7.out).mono ?_
      rintro e w8 ⟨hB, gi, ci, curi, rfl, hgn, hc, hcsi, hl⟩
      have hsz8 : w7.heap.size ≤ w8.heap.size := hB.size
      have HB8 := Lib.hid (below_step HB7.out hB)
      have R_8 := Lib.hid (R_7.out.below hB)
      have Tgx_8 := Lib.hid (Tgx_7.out.below hB)
      have Cgx_8 := Lib.hid ((hB.block gx (by omega)).trans Cgx_7.out)
      have Tgy_8 := Lib.hid (Tgy_7.out.below hB)
      have Cgy_8 := Lib.hid ((hB.block gy (by omega)).trans Cgy_7.out)
      clear hB
      have hgei : w7.heap.size ≤ gi := hgn
      have G_8 := Lib.hid hl
      have CI_8 := Lib.hid hc
      have hlti : gi < w8.heap.size := (Array.getElem?_eq_some_iff.1 hc).1
      clear hl hc hgn
      go_wp2_with fail
      refine (HQ.out gi gs _ _ w8 G_8.out R_8.out).mono ?_
      rintro e w9 ⟨rfl, hB⟩
      have hsz9 : w8.heap.size ≤ w9.heap.size := hB.size
      have HB9 := Lib.hid (below_step HB8.out hB)
      have R_9 := Lib.hid (R_8.out.below hB)
      have Tgx_9 := Lib.hid (Tgx_8.out.below hB)
      have Cgx_9 := Lib.hid ((hB.block gx (by omega)).trans Cgx_8.out)
      have Tgy_9 := Lib.hid (Tgy_8.out.below hB)
      have Cgy_9 := Lib.hid ((hB.block gy (by omega)).trans Cgy_8.out)
      have G_9 := Lib.hid (G_8.out.below hB)
      have CI_9 := Lib.hid ((hB.block gi (by omega)).trans CI_8.out)
      clear hB
      go_wp2_with fail
      refine (HT.out w9 (HL.out.below HB9.out)).mono ?_
      rintro e w10 ⟨hB, gc, rfl, hgn, hl⟩
      have hsz10 : w9.heap.size ≤ w10.heap.size := hB.size
      have HB10 := Lib.hid (below_step HB9.out hB)
      have R_10 := Lib.hid (R_9.out.below hB)
      have Tgx_10 := Lib.hid (Tgx_9.out.below hB)
      have Cgx_10 := Lib.hid ((hB.block gx (by omega)).trans Cgx_9.out)
      have Tgy_10 := Lib.hid (Tgy_9.out.below hB)
      have Cgy_10 := Lib.hid ((hB.block gy (by omega)).trans Cgy_9.out)
      have G_10 := Lib.hid (G_9.out.below hB)
      have CI_10 := Lib.hid ((hB.block gi (by omega)).trans CI_9.out)
      clear hB
      have hgegc : w9.heap.size ≤ gc := hgn
      have Tgc_10 := Lib.hid hl
      clear hl hgn
      go_wp2_with fail
      refine (HE.out gx gc w10 Tgx_10.out Tgc_10.out).mono ?_
      rintro e w11 ⟨rfl, hB⟩
      have hsz11 : w10.heap.size ≤ w11.heap.size := hB.size
      have HB11 := Lib.hid (below_step HB10.out hB)
      have R_11 := Lib.hid (R_10.out.below hB)
      have Tgx_11 := Lib.hid (Tgx_10.out.below hB)
      have Cgx_11 := Lib.hid ((hB.block gx (by omega)).trans Cgx_10.out)
      have Tgy_11 := Lib.hid (Tgy_10.out.below hB)
      have Cgy_11 := Lib.hid ((hB.block gy (by omega)).trans Cgy_10.out)
      have G_11 := Lib.hid (G_10.out.below hB)
      have CI_11 := Lib.hid ((hB.block gi (by omega)).trans CI_10.out)
      have Tgc_11 := Lib.hid (Tgc_10.out.below hB)
      clear hB
      go_wp2_with fail
      refine (HT'.out w11 (HL'.out.below HB11.out)).mono ?_
      rintro e w12 ⟨hB, gd, rfl, hgn, hl⟩
      have hsz12 : w11.heap.size ≤ w12.heap.size := hB.size
      have HB12 := Lib.hid (below_step HB11.out hB)
      have R_12 := Lib.hid (R_11.out.below hB)
      have Tgx_12 := Lib.hid (Tgx_11.out.below hB)
      have Cgx_12 := Lib.hid ((hB.block gx (by omega)).trans Cgx_11.out)
      have Tgy_12 := Lib.hid (Tgy_11.out.below hB)
      have Cgy_12 := Lib.hid ((hB.block gy (by omega)).trans Cgy_11.out)
      have G_12 := Lib.hid (G_11.out.below hB)
      have CI_12 := Lib.hid ((hB.block gi (by omega)).trans CI_11.out)
      clear hB
      have hgegd : w11.heap.size ≤ gd := hgn
      have Tgd_12 := Lib.hid hl
      clear hl hgn
      go_wp2_with fail
      refine (HE'.out gy gd w12 Tgy_12.out Tgd_12.out).mono ?_
      rintro e w13 ⟨rfl, hB⟩
      have hsz13 : w12.heap.size ≤ w13.heap.size := hB.size
      have HB13 := Lib.hid (below_step HB12.out hB)
      have R_13 := Lib.hid (R_12.out.below hB)
      have Tgx_13 := Lib.hid (Tgx_12.out.below hB)
      have Cgx_13 := Lib.hid ((hB.block gx (by omega)).trans Cgx_12.out)
      have Tgy_13 := Lib.hid (Tgy_12.out.below hB)
      have Cgy_13 := Lib.hid ((hB.block gy (by omega)).trans Cgy_12.out)
      have G_13 := Lib.hid (G_12.out.below hB)
      have CI_13 := Lib.hid ((hB.block gi (by omega)).trans CI_12.out)
      have Tgd_13 := Lib.hid (Tgd_12.out.below hB)
      clear hB
      go_wp2_with fail
      refine (markTermS_any n gx n 1 curgx w13 hn3 (by omega) (by omega) Cgx_13.out hcsgx).mono ?_
      rintro e w14 ⟨rfl, hg, _⟩
      have hsz14 : w13.heap.size ≤ w14.heap.size := hg.size
      have HB14 : Hid (Below w.heap.size w w14) := Lib.hid (HB13.out.grown hg HB13.out.size (fun b e => by simp at e; omega))
      have R_14 := Lib.hid (R_13.out.blk (hg.block gs (by omega) (by simp; omega)))
      have Cgy_14 := Lib.hid ((hg.block gy (by omega) (by simp; omega)).trans Cgy_13.out)
      have G_14 := Lib.hid (G_13.out.blk (hg.block gi (by omega) (by simp; omega)))
      have CI_14 := Lib.hid ((hg.block gi (by omega) (by simp; omega)).trans CI_13.out)
      clear hg
      go_wp2_with fail
      refine (markTermS_any n' gy n' (1 + 2 * n) curgy w14 hn3' (by omega) (by omega) Cgy_14.out hcsgy).mono ?_
      rintro e w15 ⟨rfl, hg, _⟩
      have hsz15 : w14.heap.size ≤ w15.heap.size := hg.size
      have HB15 : Hid (Below w.heap.size w w15) := Lib.hid (HB14.out.grown hg HB14.out.size (fun b e => by simp at e; omega))
      have R_15 := Lib.hid (R_14.out.blk (hg.block gs (by omega) (by simp; omega)))
      have G_15 := Lib.hid (G_14.out.blk (hg.block gi (by omega) (by simp; omega)))
      have CI_15 := Lib.hid ((hg.block gi (by omega) (by simp; omega)).trans CI_14.out)
      clear hg
      go_wp2_with fail
      refine (HQ.out gi gs _ _ w15 G_15.out R_15.out).mono ?_
      rintro e w16 ⟨rfl, hB⟩
      have hsz16 : w15.heap.size ≤ w16.heap.size := hB.size
      have HB16 := Lib.hid (below_step HB15.out hB)
      have R_16 := Lib.hid (R_15.out.below hB)
      have G_16 := Lib.hid (G_15.out.below hB)
      have CI_16 := Lib.hid ((hB.block gi (by omega)).trans CI_15.out)
      clear hB
      go_wp2_with fail
      refine (markTermS_any N gi ci 1 curi w16 (by omega) (by omega) (by omega) CI_16.out hcsi).mono ?_
      rintro e w17 ⟨rfl, hg, hl⟩
      have hsz17 : w16.heap.size ≤ w17.heap.size := hg.size
      have HB17 : Hid (Below w.heap.size w w17) := Lib.hid (HB16.out.grown hg HB16.out.size (fun b e => by simp at e; omega))
      have R_17 := Lib.hid (R_16.out.blk (hg.block gs (by omega) (by simp; omega)))
      have M_17 := Lib.hid hl
      clear hl
      clear hg
      go_wp2_with fail
      refine (heldTermS_any N gi ci 1 w17 (by omega) (by omega) (by omega) M_17.out).mono ?_
      rintro e w18 ⟨rfl, hB⟩
      have hsz18 : w17.heap.size ≤ w18.heap.size := hB.size
      have HB18 := Lib.hid (below_step HB17.out hB)
      have R_18 := Lib.hid (R_17.out.below hB)
      have M_18 := Lib.hid (M_17.out.below hB)
      clear hB
      go_wp2_with fail
      refine (HT.out w18 (HL.out.below HB18.out)).mono ?_
      rintro e w19 ⟨hB, ge, rfl, hgn, hl⟩
      have hsz19 : w18.heap.size ≤ w19.heap.size := hB.size
      have HB19 := Lib.hid (below_step HB18.out hB)
      have R_19 := Lib.hid (R_18.out.below hB)
      have M_19 := Lib.hid (M_18.out.below hB)
      clear hB
      have hgege : w18.heap.size ≤ ge := hgn
      have Tge_19 := Lib.hid hl
      clear hl hgn
      go_wp2_with fail
      refine (HT'.out w19 (HL'.out.below HB19.out)).mono ?_
      rintro e w20 ⟨hB, gf, rfl, hgn, hl⟩
      have hsz20 : w19.heap.size ≤ w20.heap.size := hB.size
      have HB20 := Lib.hid (below_step HB19.out hB)
      have R_20 := Lib.hid (R_19.out.below hB)
      have M_20 := Lib.hid (M_19.out.below hB)
      have Tge_20 := Lib.hid (Tge_19.out.below hB)
      clear hB
      have hgegf : w19.heap.size ≤ gf := hgn
      have Tgf_20 := Lib.hid hl
      clear hl hgn
      go_wp2_with fail
      refine (HI.out ge gf w20 Tge_20.out Tgf_20.out).mono ?_
      rintro e w21 ⟨hB, gj, cj, curj, rfl, hgn, hc, hcsj, hl⟩
      have hsz21 : w20.heap.size ≤ w21.heap.size := hB.size
      have HB21 := Lib.hid (below_step HB20.out hB)
      have R_21 := Lib.hid (R_20.out.below hB)
      have M_21 := Lib.hid (M_20.out.below hB)
      have Tge_21 := Lib.hid (Tge_20.out.below hB)
      have Tgf_21 := Lib.hid (Tgf_20.out.below hB)
      clear hB
      have G2_21 := Lib.hid hl
      clear hl hc hgn hcsj
      go_wp2_with fail
      refine (HQ.out gj gs _ _ w21 G2_21.out R_21.out).mono ?_
      rintro e w22 ⟨rfl, hB⟩
      have hsz22 : w21.heap.size ≤ w22.heap.size := hB.size
      have HB22 := Lib.hid (below_step HB21.out hB)
      have R_22 := Lib.hid (R_21.out.below hB)
      have M_22 := Lib.hid (M_21.out.below hB)
      have Tge_22 := Lib.hid (Tge_21.out.below hB)
      have Tgf_22 := Lib.hid (Tgf_21.out.below hB)
      have G2_22 := Lib.hid (G2_21.out.below hB)
      clear hB
      go_wp2_with fail
      refine (heldTermS_any N gi ci 1 w22 (by omega) (by omega) (by omega) M_22.out).mono ?_
      rintro e w23 ⟨rfl, hB⟩
      have hsz23 : w22.heap.size ≤ w23.heap.size := hB.size
      have HB23 := Lib.hid (below_step HB22.out hB)
      have R_23 := Lib.hid (R_22.out.below hB)
      have M_23 := Lib.hid (M_22.out.below hB)
      have Tge_23 := Lib.hid (Tge_22.out.below hB)
      have Tgf_23 := Lib.hid (Tgf_22.out.below hB)
      have G2_23 := Lib.hid (G2_22.out.below hB)
      clear hB
      go_wp2_with fail
      go_ret
      exact ⟨rfl, HB23.out⟩
end Go.Proofs.Ytflmdknienjlmaa
