/- The law of QuadPair. -/
import Derived.Test.YtapobhnhnldlkaaKQuadD
import Derived.Test.YtapobhnhnldlkaaLawQT
import Derived.Test.YtapobhnhnldlkaaKSumRJ
namespace Go.Proofs.Ytapobhnhnldlkaa
open Go.RowKit

set_option maxRecDepth 100000 in
set_option maxHeartbeats 1000000 in
theorem szStringS_le (ss : List ByteArray) (a : Option Addr) (cap : Nat) (w : World) (hn : ss.length ≤ 9223372036854775807) (hz : ∀ s ∈ ss, s.size ≤ 9223372036854775807) (hl : LiesO w a ss) :
    Calls Try.prog 4 #[.slice a ss.length cap, .int .i64 1048576] w (fun e w' => Below w.heap.size w w' ∧ ∃ v : Int, e = .returned (.int .i64 v) ∧ (v < 0 ∨ (0 ≤ v ∧ v ≤ 1048576 ∧ ss.length ≤ 1048576 ∧ ∀ j (h : j < ss.length), (ss[j]).size ≤ 1048576))) := by
  have HL := Lib.hid hl
  have HZ := Lib.hid hz
  clear hl hz
  by_cases hlen : ss.length ≤ 1048576
  · go_enter Try.func4, Try.ntmps4
    go_wp2_with fail
    go_loopw [1, 5] (fun lv iv wr => ∃ (k : Nat) (l : Int), k ≤ ss.length ∧ iv = .int .i64 k ∧ lv = .int .i64 l ∧ 0 ≤ l ∧ l ≤ 1048576 ∧ (∀ j (h : j < ss.length), j < k → (ss[j]).size ≤ 1048576) ∧ Below w.heap.size w wr) (fun _ iv _ => ss.length - (intOf iv).toNat)
    case atStart => exact ⟨0, 1048576 - (ss.length : Int), Nat.zero_le _, rfl, by first | rfl | go_num, by omega, by omega, fun j _ h => by omega, Below.refl _ _⟩
    case round =>
      obtain ⟨k, l, hk, rfl, rfl, hl0, hl1, hj, hB⟩ := hrel
      have HJ := Lib.hid hj
      clear hj
      by_cases hlt : k < ss.length
      · obtain ⟨b, off, rfl, hc⟩ := (HL.out.below hB) k hlt
        have hsz : (ss[k]).size ≤ 9223372036854775807 := HZ.out _ (List.getElem_mem hlt)
        obtain ⟨sz, hsz'⟩ : ∃ sz, sz = (ss[k]).size := ⟨_, rfl⟩
        have HS := Lib.hid hsz'
        by_cases h0 : (sz : Int) ≤ l
        · have h0' : ((ss[k]).size : Int) ≤ l := by omega
          clear hsz'
          go_wp2_with fail
          go_roundw
          case rel => exact ⟨k + 1, l - ((ss[k]).size : Int), by omega, by go_num, by first | rfl | go_num, by omega, by omega, fun j h hjk => by
              by_cases e : j = k
              · subst e; omega
              · exact HJ.out j h (by omega), hB⟩
          case measure => simp [intOf]; omega
        · have h0' : l < ((ss[k]).size : Int) := by omega
          clear hsz'
          go_wp2_with fail
          go_ret
          exact ⟨hB, -1, rfl, .inl (by omega)⟩
      · have hkk : k = ss.length := by omega
        go_wp2_with fail
        go_ret
        exact ⟨hB, l, rfl, .inr ⟨hl0, hl1, hlen, fun j h => HJ.out j h (by omega)⟩⟩
  · go_enter Try.func4, Try.ntmps4
    go_wp2_with fail
    go_ret
    exact ⟨Below.refl _ _, -1, rfl, .inl (by omega)⟩

set_option maxRecDepth 100000 in
set_option maxHeartbeats 2000000 in
theorem lawQuadPair_any (ss : List ByteArray) (a : Option Addr) (cap : Nat) (ys : List (Int × ByteArray)) (a' : Option Addr) (cap' : Nat) (zs : List (Int × ByteArray)) (b' : Option Addr) (cbp : Nat) (w : World) (hl : LiesO w a ss) (hz : ∀ x ∈ ss, x.size ≤ 9223372036854775807) (hn : ss.length ≤ 9223372036854775807)
    (hl' : TermO w a' ys) (hz' : ∀ j (h : j < ys.length), (ys[j]).2.size ≤ 9223372036854775807) (_har' : Coefs ys) (hn' : ys.length ≤ 9223372036854775807)
    (hl3 : TermO w b' zs) (hz3 : ∀ j (h : j < zs.length), (zs[j]).2.size ≤ 9223372036854775807) (_har3 : Coefs zs) (hn3 : zs.length ≤ 9223372036854775807) :
    Calls Try.prog 3 #[.slice a ss.length cap, .slice a' ys.length cap', .slice b' zs.length cbp] w (Ans (.bool true) w) := by
  have HL := Lib.hid hl
  have HL' := Lib.hid hl'
  have HL3 := Lib.hid hl3
  have HS0 := Lib.hid (szStringS_le ss a cap w hn hz hl)
  have HS1 := Lib.hid (fun (l0 : Int) (h0 : 0 ≤ l0) (h1 : l0 ≤ 1048576) (W : World) (hb : Below w.heap.size w W) => szTermS_any ys a' cap' l0 W h0 h1 hn' hz' (hl'.below hb))
  have HS2 := Lib.hid (fun (l0 : Int) (h0 : 0 ≤ l0) (h1 : l0 ≤ 1048576) (W : World) (hb : Below w.heap.size w W) => szTermS_any zs b' cbp l0 W h0 h1 hn3 hz3 (hl3.below hb))
  clear hl hz hl' hz' hl3 hz3
  go_enter Try.func3, Try.ntmps3
  go_wp2_with fail
  refine HS0.out.mono ?_
  rintro e w1 ⟨hB1, v, rfl, hv | ⟨hv, hvle, hn2, hz2⟩⟩
  · go_wp2_with fail
    go_ret
    exact ⟨rfl, hB1⟩
  have HBa := Lib.hid hB1
  have HZ2 := Lib.hid hz2
  clear hB1 hz2
  go_wp2_with fail
  refine (HS1.out v (by omega) (by omega) w1 HBa.out).mono ?_
  rintro e w2 ⟨hB2, v', rfl, hv' | ⟨hv', hv2', hn2', hz2'⟩⟩
  · have HBb := Lib.hid (below_step HBa.out hB2)
    go_wp2_with fail
    go_ret
    exact ⟨rfl, HBb.out⟩
  have HBb := Lib.hid (below_step HBa.out hB2)
  clear hB2
  go_wp2_with fail
  refine (HS2.out v' (by omega) (by omega) w2 HBb.out).mono ?_
  rintro e w3 ⟨hB3, v3, rfl, hv3 | ⟨hv3, hv23, hn23, hz23⟩⟩
  · have HBc := Lib.hid (below_step HBb.out hB3)
    go_wp2_with fail
    go_ret
    exact ⟨rfl, HBc.out⟩
  have HB3 := Lib.hid (below_step HBb.out hB3)
  clear hB3
  obtain ⟨n, hnn⟩ : ∃ n, n = ss.length := ⟨_, rfl⟩
  obtain ⟨m, hmm⟩ : ∃ m, m = ys.length := ⟨_, rfl⟩
  obtain ⟨k, hkk⟩ : ∃ k, k = zs.length := ⟨_, rfl⟩
  have HNN := Lib.hid hnn
  have hnl : n ≤ 1048576 := by omega
  have hml : m ≤ 1048576 := by omega
  have hkl : k ≤ 1048576 := by omega
  have hpl : (txl ss).length = n := by rw [txl_length, hnn]
  have HPL := Lib.hid hpl
  have HS : Hid (∀ (g g1 g2 : Nat) (w : World), Lies w (some ⟨g, 0, none⟩) (txl ss) → TermL w g1 ys → TermL w g2 zs → Calls Try.prog 6 #[.slice (some ⟨g, 0, none⟩) n n, .slice (some ⟨g1, 0, none⟩) m m, .slice (some ⟨g2, 0, none⟩) k k] w (Ans (.int .i64 (pairOf ss ys zs)) w)) :=
    Lib.hid (fun g g1 g2 w h h1 h2 => sQuadPair_any ss ys zs n m k hnn hmm hkk g n g1 m g2 k w hnl hml hkl HZ2.out hz2' hz23 (TxG.of_lies h) h1 h2)
  have HI : Hid (∀ (g g1 g2 : Nat) (w : World), Lies w (some ⟨g, 0, none⟩) (txl ss) → TermL w g1 ys → TermL w g2 zs → Calls Try.prog 9 #[.slice (some ⟨g, 0, none⟩) n n, .slice (some ⟨g1, 0, none⟩) m m, .slice (some ⟨g2, 0, none⟩) k k] w (Ans (.int .i64 (pairOf ss ys zs)) w)) :=
    Lib.hid (fun g g1 g2 w h h1 h2 => iQuadPair_any ss ys zs n m k hnn hmm hkk g n g1 m g2 k w hnl (Nat.le_refl _) hml hkl HZ2.out hz2' hz23 (TxG.of_lies h) h1 h2)
  have HT : Hid (∀ w, LiesO w a ss → Calls Try.prog 7 #[.slice a n cap] w (fun e w' => Below w.heap.size w w' ∧ ∃ g, e = .returned (.slice (some ⟨g, 0, none⟩) n n) ∧ Lies w' (some ⟨g, 0, none⟩) (txl ss))) := Lib.hid (fun w hh => by
    have := toStringT_any ss a cap w hn2 hh
    rw [← HNN.out] at this
    exact this.mono (fun e w' h => by
      obtain ⟨h1, g, h2, h3, h4, h5⟩ := h
      exact ⟨h1, g, by rw [h2, HNN.out], h5⟩))
  have HT1 := Lib.hid (fun w hh => toTm_n (cap := cap') hmm hn2' w (a := a') hh)
  have HT2 := Lib.hid (fun w hh => toTm_n (cap := cbp) hkk hn23 w (a := b') hh)
  have HE : Hid (∀ (g g' : Nat) (w : World), Lies w (some ⟨g, 0, none⟩) (txl ss) → Lies w (some ⟨g', 0, none⟩) (txl ss) → Calls Try.prog 10 #[.slice (some ⟨g, 0, none⟩) n n, .slice (some ⟨g', 0, none⟩) n n] w (Ans (.bool true) w)) := Lib.hid (fun g g' w h1 h2 => by
    have := eqStringS_any (txl ss) (some ⟨g, 0, none⟩) (some ⟨g', 0, none⟩) n n w (by rw [HPL.out]; omega) h1 h2
    rw [HPL.out] at this
    exact this)
  have HE1 := Lib.hid (fun g g' w h1 h2 => eqTermS_any ys m hmm g g' m m w hml h1 h2)
  have HE2 := Lib.hid (fun g g' w h1 h2 => eqTermS_any zs k hkk g g' k k w hkl h1 h2)
  obtain ⟨o, ho⟩ : ∃ o, o = pairOf ss ys zs := ⟨_, rfl⟩
  rw [← ho] at HS HI
  rw [← hnn, ← hmm, ← hkk]
  clear hnn hmm hkk hn2' hz2' hn23 hz23 hpl ho hn hn' hn3 hn2 hv2' hv23
  go_wp2_with fail
  refine (HT.out w3 (HL.out.below HB3.out)).mono ?_
  rintro e w4 ⟨hB, ga, rfl, hl⟩
  have HB4 := Lib.hid (below_step HB3.out hB)
  clear hB
  have Lga_4 := Lib.hid hl
  clear hl
  go_wp2_with fail
  refine (HT1.out w4 (HL'.out.below HB4.out)).mono ?_
  rintro e w5 ⟨hB, gb, rfl, hgn, hl⟩
  have HB5 := Lib.hid (below_step HB4.out hB)
  have Lga_5 := Lib.hid (Lga_4.out.below hB)
  clear hB
  have Tgb_5 := Lib.hid hl
  clear hl
  go_wp2_with fail
  refine (HT2.out w5 (HL3.out.below HB5.out)).mono ?_
  rintro e w6 ⟨hB, gc, rfl, hgn, hl⟩
  have HB6 := Lib.hid (below_step HB5.out hB)
  have Lga_6 := Lib.hid (Lga_5.out.below hB)
  have Tgb_6 := Lib.hid (Tgb_5.out.below hB)
  clear hB
  have Tgc_6 := Lib.hid hl
  clear hl
  go_wp2_with fail
  refine (HS.out ga gb gc w6 Lga_6.out Tgb_6.out Tgc_6.out).mono ?_
  rintro e w7 ⟨rfl, hB⟩
  have HB7 := Lib.hid (below_step HB6.out hB)
  have Lga_7 := Lib.hid (Lga_6.out.below hB)
  have Tgb_7 := Lib.hid (Tgb_6.out.below hB)
  have Tgc_7 := Lib.hid (Tgc_6.out.below hB)
  clear hB
  go_wp2_with fail
  refine (HT.out w7 (HL.out.below HB7.out)).mono ?_
  rintro e w8 ⟨hB, gd, rfl, hl⟩
  have HB8 := Lib.hid (below_step HB7.out hB)
  have Lga_8 := Lib.hid (Lga_7.out.below hB)
  have Tgb_8 := Lib.hid (Tgb_7.out.below hB)
  have Tgc_8 := Lib.hid (Tgc_7.out.below hB)
  clear hB
  have Lgd_8 := Lib.hid hl
  clear hl
  go_wp2_with fail
  refine (HT1.out w8 (HL'.out.below HB8.out)).mono ?_
  rintro e w9 ⟨hB, ge, rfl, hgn, hl⟩
  have HB9 := Lib.hid (below_step HB8.out hB)
  have Lga_9 := Lib.hid (Lga_8.out.below hB)
  have Tgb_9 := Lib.hid (Tgb_8.out.below hB)
  have Tgc_9 := Lib.hid (Tgc_8.out.below hB)
  have Lgd_9 := Lib.hid (Lgd_8.out.below hB)
  clear hB
  have Tge_9 := Lib.hid hl
  clear hl
  go_wp2_with fail
  refine (HT2.out w9 (HL3.out.below HB9.out)).mono ?_
  rintro e w10 ⟨hB, gf, rfl, hgn, hl⟩
  have HB10 := Lib.hid (below_step HB9.out hB)
  have Lga_10 := Lib.hid (Lga_9.out.below hB)
  have Tgb_10 := Lib.hid (Tgb_9.out.below hB)
  have Tgc_10 := Lib.hid (Tgc_9.out.below hB)
  have Lgd_10 := Lib.hid (Lgd_9.out.below hB)
  have Tge_10 := Lib.hid (Tge_9.out.below hB)
  clear hB
  have Tgf_10 := Lib.hid hl
  clear hl
  go_wp2_with fail
  refine (HI.out gd ge gf w10 Lgd_10.out Tge_10.out Tgf_10.out).mono ?_
  rintro e w11 ⟨rfl, hB⟩
  have HB11 := Lib.hid (below_step HB10.out hB)
  have Lga_11 := Lib.hid (Lga_10.out.below hB)
  have Tgb_11 := Lib.hid (Tgb_10.out.below hB)
  have Tgc_11 := Lib.hid (Tgc_10.out.below hB)
  have Lgd_11 := Lib.hid (Lgd_10.out.below hB)
  have Tge_11 := Lib.hid (Tge_10.out.below hB)
  have Tgf_11 := Lib.hid (Tgf_10.out.below hB)
  clear hB
  go_wp2_with fail
  refine (HT.out w11 (HL.out.below HB11.out)).mono ?_
  rintro e w12 ⟨hB, gh, rfl, hl⟩
  have HB12 := Lib.hid (below_step HB11.out hB)
  have Lga_12 := Lib.hid (Lga_11.out.below hB)
  have Tgb_12 := Lib.hid (Tgb_11.out.below hB)
  have Tgc_12 := Lib.hid (Tgc_11.out.below hB)
  have Lgd_12 := Lib.hid (Lgd_11.out.below hB)
  have Tge_12 := Lib.hid (Tge_11.out.below hB)
  have Tgf_12 := Lib.hid (Tgf_11.out.below hB)
  clear hB
  have Lgh_12 := Lib.hid hl
  clear hl
  go_wp2_with fail
  refine (HE.out gd gh w12 Lgd_12.out Lgh_12.out).mono ?_
  rintro e w13 ⟨rfl, hB⟩
  have HB13 := Lib.hid (below_step HB12.out hB)
  have Lga_13 := Lib.hid (Lga_12.out.below hB)
  have Tgb_13 := Lib.hid (Tgb_12.out.below hB)
  have Tgc_13 := Lib.hid (Tgc_12.out.below hB)
  have Lgd_13 := Lib.hid (Lgd_12.out.below hB)
  have Tge_13 := Lib.hid (Tge_12.out.below hB)
  have Tgf_13 := Lib.hid (Tgf_12.out.below hB)
  have Lgh_13 := Lib.hid (Lgh_12.out.below hB)
  clear hB
  go_wp2_with fail
  refine (HT1.out w13 (HL'.out.below HB13.out)).mono ?_
  rintro e w14 ⟨hB, gi, rfl, hgn, hl⟩
  have HB14 := Lib.hid (below_step HB13.out hB)
  have Lga_14 := Lib.hid (Lga_13.out.below hB)
  have Tgb_14 := Lib.hid (Tgb_13.out.below hB)
  have Tgc_14 := Lib.hid (Tgc_13.out.below hB)
  have Lgd_14 := Lib.hid (Lgd_13.out.below hB)
  have Tge_14 := Lib.hid (Tge_13.out.below hB)
  have Tgf_14 := Lib.hid (Tgf_13.out.below hB)
  have Lgh_14 := Lib.hid (Lgh_13.out.below hB)
  clear hB
  have Tgi_14 := Lib.hid hl
  clear hl
  go_wp2_with fail
  refine (HE1.out ge gi w14 Tge_14.out Tgi_14.out).mono ?_
  rintro e w15 ⟨rfl, hB⟩
  have HB15 := Lib.hid (below_step HB14.out hB)
  have Lga_15 := Lib.hid (Lga_14.out.below hB)
  have Tgb_15 := Lib.hid (Tgb_14.out.below hB)
  have Tgc_15 := Lib.hid (Tgc_14.out.below hB)
  have Lgd_15 := Lib.hid (Lgd_14.out.below hB)
  have Tge_15 := Lib.hid (Tge_14.out.below hB)
  have Tgf_15 := Lib.hid (Tgf_14.out.below hB)
  have Lgh_15 := Lib.hid (Lgh_14.out.below hB)
  have Tgi_15 := Lib.hid (Tgi_14.out.below hB)
  clear hB
  go_wp2_with fail
  refine (HT2.out w15 (HL3.out.below HB15.out)).mono ?_
  rintro e w16 ⟨hB, gj, rfl, hgn, hl⟩
  have HB16 := Lib.hid (below_step HB15.out hB)
  have Lga_16 := Lib.hid (Lga_15.out.below hB)
  have Tgb_16 := Lib.hid (Tgb_15.out.below hB)
  have Tgc_16 := Lib.hid (Tgc_15.out.below hB)
  have Lgd_16 := Lib.hid (Lgd_15.out.below hB)
  have Tge_16 := Lib.hid (Tge_15.out.below hB)
  have Tgf_16 := Lib.hid (Tgf_15.out.below hB)
  have Lgh_16 := Lib.hid (Lgh_15.out.below hB)
  have Tgi_16 := Lib.hid (Tgi_15.out.below hB)
  clear hB
  have Tgj_16 := Lib.hid hl
  clear hl
  go_wp2_with fail
  refine (HE2.out gf gj w16 Tgf_16.out Tgj_16.out).mono ?_
  rintro e w17 ⟨rfl, hB⟩
  have HB17 := Lib.hid (below_step HB16.out hB)
  have Lga_17 := Lib.hid (Lga_16.out.below hB)
  have Tgb_17 := Lib.hid (Tgb_16.out.below hB)
  have Tgc_17 := Lib.hid (Tgc_16.out.below hB)
  have Lgd_17 := Lib.hid (Lgd_16.out.below hB)
  have Tge_17 := Lib.hid (Tge_16.out.below hB)
  have Tgf_17 := Lib.hid (Tgf_16.out.below hB)
  have Lgh_17 := Lib.hid (Lgh_16.out.below hB)
  have Tgi_17 := Lib.hid (Tgi_16.out.below hB)
  have Tgj_17 := Lib.hid (Tgj_16.out.below hB)
  clear hB
  go_wp2_with fail
  go_ret
  exact ⟨rfl, HB17.out⟩
end Go.Proofs.Ytapobhnhnldlkaa
